package tests

import (
	"math"
	"math/bits"
	"slices"
	"testing"

	"loop.example/g00567/impl"
)

func TestSizes(t *testing.T) {
	if impl.MaxNodes != 7 {
		t.Error(impl.MaxNodes)
	}
	for n, want := range map[int][3]int{4: {1, 3, 2}, 7: {2, 5, 3}} {
		if got := [3]int{impl.Faults(n), impl.Strong(n), impl.Weak(n)}; got != want || !impl.SizeOk(n) {
			t.Error(n, got, impl.SizeOk(n))
		}
	}
	for _, n := range otherSizes {
		if impl.SizeOk(n) || impl.Faults(n) != -1 || impl.Strong(n) != -1 || impl.Weak(n) != -1 {
			t.Error(n, impl.SizeOk(n), impl.Faults(n), impl.Strong(n), impl.Weak(n))
		}
	}
}

func TestStrongQuorumsHaveAWeakQuorumInCommon(t *testing.T) {
	for _, n := range []int{4, 7} {
		quorums := sets(n, impl.Strong(n))
		if len(quorums) == 0 {
			t.Fatal("no strong quorum of", n)
		}
		for _, a := range quorums {
			for _, b := range quorums {
				if bits.OnesCount(a&b) < impl.Weak(n) {
					t.Errorf("of %d: %b and %b have %b in common", n, a, b, a&b)
				}
			}
		}
	}
}

func TestVotersOfStrongQuorumsHaveAWeakQuorumInCommon(t *testing.T) {
	for _, n := range []int{4, 7} {
		quorums := sets(n, impl.Strong(n))
		for _, a := range quorums {
			for _, b := range quorums {
				both, ok := impl.Joined(setTally(a, 0, 5), setTally(b, 1, 6))
				if !ok {
					t.Fatal(a, b)
				}
				common := 0
				second := impl.Voters(both, 1, 6)
				for _, from := range impl.Voters(both, 0, 5) {
					if slices.Contains(second, from) {
						common++
					}
				}
				if common < impl.Weak(n) {
					t.Errorf("of %d: %b and %b have %d voters in common", n, a, b, common)
				}
			}
		}
	}
}

func TestQuorumsAndFaultyReplicas(t *testing.T) {
	for _, n := range []int{4, 7} {
		if impl.Weak(n) <= impl.Faults(n) {
			t.Error("a weak quorum of", n, "may be faulty")
		}
		if impl.Faults(n) < 1 || n <= 3*impl.Faults(n) {
			t.Error(n, impl.Faults(n))
		}
		for set := range uint(1) << n {
			if bits.OnesCount(set) > impl.Faults(n) {
				continue
			}
			honest := setTally((1<<n-1)&^set, 3, 8)
			val, ok := impl.Winner(honest, 3, impl.Strong(n))
			if val != 8 || !ok || !impl.Open(n, honest, 3) {
				t.Errorf("of %d: without %b the winner is %d %v", n, set, val, ok)
			}
		}
	}
}

func TestTallyOk(t *testing.T) {
	for _, x := range validTallies() {
		if !impl.TallyOk(x) {
			t.Fatal(x, "is valid")
		}
	}
	for name, x := range invalidTallies() {
		if impl.TallyOk(x) {
			t.Error(name)
		}
	}
	for _, x := range []impl.Tally{
		tally(6, 0, 9, 0, 1, 9),
		tally(0, 0, 60, 1, 0, 1),
		tally(0, 0, 1, 6, 0, 1, 0, 9, 60, 6, 9, 60),
	} {
		if !impl.TallyOk(x) {
			t.Error(x, "is valid")
		}
	}
}

func TestTallyOkAtTheEdges(t *testing.T) {
	for _, from := range someFroms {
		for _, view := range someViews {
			for _, val := range someVals {
				b := ballot(from, view, val)
				want := 0 <= from && from <= 6 && 0 <= view && view <= 9 && 1 <= val && val <= 60
				if got := impl.TallyOk(impl.Tally{L: []impl.Ballot{b}}); got != want {
					t.Error(b, got)
				}
				got, ok := impl.TallyAdd(impl.Tally{}, b)
				if want {
					wantTally(t, got, ok, impl.Tally{L: []impl.Ballot{b}}, true)
				} else {
					wantTally(t, got, ok, impl.Tally{}, false)
				}
			}
		}
	}
}

func TestTallyAddInsertsInOrder(t *testing.T) {
	base := tally(1, 1, 9, 3, 1, 8, 0, 4, 9)
	for _, c := range []struct {
		b    impl.Ballot
		want impl.Tally
	}{
		{ballot(6, 0, 60), tally(6, 0, 60, 1, 1, 9, 3, 1, 8, 0, 4, 9)},
		{ballot(0, 1, 1), tally(0, 1, 1, 1, 1, 9, 3, 1, 8, 0, 4, 9)},
		{ballot(2, 1, 9), tally(1, 1, 9, 2, 1, 9, 3, 1, 8, 0, 4, 9)},
		{ballot(6, 1, 9), tally(1, 1, 9, 3, 1, 8, 6, 1, 9, 0, 4, 9)},
		{ballot(1, 2, 9), tally(1, 1, 9, 3, 1, 8, 1, 2, 9, 0, 4, 9)},
		{ballot(1, 4, 9), tally(1, 1, 9, 3, 1, 8, 0, 4, 9, 1, 4, 9)},
		{ballot(0, 9, 1), tally(1, 1, 9, 3, 1, 8, 0, 4, 9, 0, 9, 1)},
	} {
		got, ok := impl.TallyAdd(base, c.b)
		wantTally(t, got, ok, c.want, true)
	}
}

func TestAddedInAnyOrderTheTallyIsTheSame(t *testing.T) {
	want := fullTally()
	for _, step := range []int{1, 3, 9, 11, 13, 27, 33, 39, 69} { // none has a factor in common with 70
		var got impl.Tally
		for i := range want.L {
			b, ok := want.L[i*step%len(want.L)], false
			if got, ok = impl.TallyAdd(got, b); !ok || !impl.TallyOk(got) || len(got.L) != i+1 {
				t.Fatal(step, b, got, ok)
			}
		}
		wantTally(t, got, true, want, true)
	}
}

func TestFirstBallotRemains(t *testing.T) {
	for _, x := range validTallies()[:600] {
		for _, first := range x.L {
			for _, val := range []int{1, 9, 60, first.Val} {
				got, ok := impl.TallyAdd(x, ballot(first.From, first.View, val))
				wantTally(t, got, ok, x, false)
				if told, ok := impl.Told(got, first.View, first.From); told != first.Val || !ok {
					t.Error(x, first, told, ok)
				}
			}
		}
	}
	x := tally(2, 1, 9)
	x, ok := impl.TallyAdd(x, ballot(2, 1, 8))
	wantTally(t, x, ok, tally(2, 1, 9), false)
	x, ok = impl.TallyAdd(x, ballot(2, 2, 8))
	wantTally(t, x, ok, tally(2, 1, 9, 2, 2, 8), true)
}

func TestTallyAddRefuses(t *testing.T) {
	for name, b := range invalidBallots() {
		for _, x := range []impl.Tally{{}, tally(3, 2, 9), fullTally()} {
			got, ok := impl.TallyAdd(x, b)
			if ok || len(got.L) != 0 {
				t.Error(name, x, got, ok)
			}
		}
	}
	for name, x := range invalidTallies() {
		for _, b := range []impl.Ballot{ballot(6, 2, 9), ballot(0, 2, 9), ballot(0, 2, 8), ballot(0, 9, 1), ballot(7, 2, 9), {}} {
			got, ok := impl.TallyAdd(x, b)
			if ok || len(got.L) != 0 {
				t.Error(name, b, got, ok)
			}
		}
	}
}

func TestTallyAddIsSeen(t *testing.T) {
	for _, x := range mixedTallies() {
		for view := range 10 {
			for from := range 7 {
				got, ok := impl.TallyAdd(x, ballot(from, view, 42))
				told, there := impl.Told(x, view, from)
				if ok == there || !there && told != 0 {
					t.Fatal(x, view, from, ok, told)
				}
				if !ok {
					wantTally(t, got, ok, x, false)
					continue
				}
				told, there = impl.Told(got, view, from)
				if told != 42 || !there || !impl.TallyOk(got) || len(got.L) != len(x.L)+1 || impl.Count(got, view, 42) != impl.Count(x, view, 42)+1 {
					t.Fatal(x, view, from, got)
				}
				for _, b := range x.L {
					if !slices.Contains(got.L, b) {
						t.Fatal(x, view, from, got)
					}
				}
			}
		}
	}
}

func TestCountAndVoters(t *testing.T) {
	for _, x := range validTallies() {
		for _, view := range someViews {
			for _, val := range someVals {
				var want []int
				for from := range 7 {
					if slices.Contains(x.L, ballot(from, view, val)) {
						want = append(want, from)
					}
				}
				if got := impl.Voters(x, view, val); !slices.Equal(got, want) {
					t.Fatalf("Voters(%v, %d, %d) is %v", x, view, val, got)
				}
				if got := impl.Count(x, view, val); got != len(want) {
					t.Fatalf("Count(%v, %d, %d) is %d", x, view, val, got)
				}
			}
		}
	}
}

func TestCountAndVotersByHand(t *testing.T) {
	x := tally(0, 1, 9, 2, 1, 8, 4, 1, 9, 6, 1, 9, 0, 2, 9)
	for _, c := range []struct {
		view, val int
		want      []int
	}{{1, 9, []int{0, 4, 6}}, {1, 8, []int{2}}, {2, 9, []int{0}}, {2, 8, nil}, {0, 9, nil}, {1, 7, nil}, {0, 0, nil}, {1, 0, nil}, {10, 9, nil}, {-1, 9, nil}} {
		if got := impl.Voters(x, c.view, c.val); !slices.Equal(got, c.want) || impl.Count(x, c.view, c.val) != len(c.want) {
			t.Error(c, got, impl.Count(x, c.view, c.val))
		}
	}
}

func TestTold(t *testing.T) {
	for _, x := range validTallies() {
		for _, view := range someViews {
			for _, from := range someFroms {
				want, found := 0, false
				for _, b := range x.L {
					if b.View == view && b.From == from {
						want, found = b.Val, true
					}
				}
				if got, ok := impl.Told(x, view, from); got != want || ok != found {
					t.Fatalf("Told(%v, %d, %d) is %d %v", x, view, from, got, ok)
				}
			}
		}
	}
}

func TestWinner(t *testing.T) {
	for _, x := range validTallies() {
		for _, view := range someViews {
			for _, need := range []int{math.MinInt, -1, 0, 1, 2, 3, 4, 5, 6, 7, 8, 256, math.MaxInt} {
				want, found := winnerIn(x, view, need)
				if got, ok := impl.Winner(x, view, need); got != want || ok != found {
					t.Fatalf("Winner(%v, %d, %d) is %d %v", x, view, need, got, ok)
				}
			}
		}
	}
}

func TestWinnerByHand(t *testing.T) {
	mixed := viewTally(3, 60, 9, 10, 9, 60, 10, 2)
	for _, c := range []struct {
		x          impl.Tally
		view, need int
		want       int
	}{
		{mixed, 3, 1, 2},
		{mixed, 3, 2, 9},
		{mixed, 3, 3, 0},
		{mixed, 3, 0, 0},
		{mixed, 3, -1, 0},
		{mixed, 2, 1, 0},
		{mixed, 4, 1, 0},
		{viewTally(0, 7, 6, 5, 4, 3, 2, 1), 0, 1, 1},
		{viewTally(0, 1, 2, 3, 4, 5, 6, 7), 0, 1, 1},
		{viewTally(9, 60, 60, 60, 1, 1), 9, 3, 60},
		{viewTally(9, 60, 60, 60, 1, 1), 9, 2, 1},
		{viewTally(9, 60, 60, 60, 1, 1), 9, 4, 0},
		{tally(0, 0, 5, 1, 0, 5, 2, 1, 5, 3, 1, 5), 0, 3, 0},
		{tally(0, 0, 5, 1, 0, 5, 2, 1, 4, 3, 1, 4), 0, 1, 5},
		{impl.Tally{}, 0, 1, 0},
		{impl.Tally{}, 0, 0, 0},
		{impl.Tally{}, 0, math.MinInt, 0},
	} {
		if got, ok := impl.Winner(c.x, c.view, c.need); got != c.want || ok != (c.want != 0) {
			t.Errorf("Winner(%v, %d, %d) is %d %v, want %d", c.x, c.view, c.need, got, ok, c.want)
		}
	}
}

func TestWinnerAtItsCount(t *testing.T) {
	for _, x := range mixedTallies() {
		for view := range 10 {
			for _, val := range []int{1, 9, 30, 60} {
				n := impl.Count(x, view, val)
				if n == 0 {
					continue
				}
				if got, ok := impl.Winner(x, view, n); !ok || got > val {
					t.Fatal(x, view, val, n, got, ok)
				}
				if got, ok := impl.Winner(x, view, n+1); ok && got == val {
					t.Fatal(x, view, val, n+1, got, ok)
				}
			}
		}
	}
}

func TestOneWinnerWithAStrongQuorum(t *testing.T) {
	for _, n := range []int{4, 7} {
		won := 0
		assignments(n, 10-n, func(vals []int) { // up to 6 values of 4, up to 3 of 7
			x := viewTally(4, vals...)
			able := 0
			for val := 1; val <= 60; val++ {
				if impl.Count(x, 4, val) < impl.Strong(n) {
					continue
				}
				able++
				if got, ok := impl.Winner(x, 4, impl.Strong(n)); got != val || !ok {
					t.Error(n, vals, got, ok)
				}
			}
			if _, ok := impl.Winner(x, 4, impl.Strong(n)); able > 1 || ok != (able == 1) {
				t.Error(n, vals, able, ok)
			}
			won += able
		})
		if won == 0 {
			t.Error("nothing has won of", n)
		}
	}
}

// A value that has won with a strong quorum still wins, alone, whatever is added.
func TestWinnerRemains(t *testing.T) {
	for _, n := range []int{4, 7} {
		for _, quorum := range sets(n, impl.Strong(n)) {
			x := setTally(quorum, 2, 9)
			for from := range n {
				x, _ = impl.TallyAdd(x, ballot(from, 2, 1))
			}
			if got, ok := impl.Winner(x, 2, impl.Strong(n)); got != 9 || !ok || len(impl.Silent(n, x, 2)) != 0 {
				t.Errorf("of %d: %b, %v, %d %v", n, quorum, x, got, ok)
			}
		}
	}
}

func TestViewsIn(t *testing.T) {
	for _, x := range validTallies() {
		var want []int
		for view := range 10 {
			if len(silentIn(7, x, view)) < 7 {
				want = append(want, view)
			}
		}
		if got := impl.ViewsIn(x); !slices.Equal(got, want) {
			t.Fatalf("ViewsIn(%v) is %v", x, got)
		}
	}
	for _, c := range []struct {
		x    impl.Tally
		want []int
	}{
		{impl.Tally{}, nil},
		{tally(6, 0, 60), []int{0}},
		{tally(0, 9, 1), []int{9}},
		{tally(5, 0, 9, 5, 3, 9, 6, 3, 9, 0, 9, 9), []int{0, 3, 9}},
		{fullTally(), []int{0, 1, 2, 3, 4, 5, 6, 7, 8, 9}},
	} {
		if got := impl.ViewsIn(c.x); !slices.Equal(got, c.want) {
			t.Errorf("ViewsIn(%v) is %v", c.x, got)
		}
	}
}

func TestSilent(t *testing.T) {
	for _, x := range validTallies() {
		for _, view := range someViews {
			for _, n := range []int{4, 7} {
				if got, want := impl.Silent(n, x, view), silentIn(n, x, view); !slices.Equal(got, want) {
					t.Fatalf("Silent(%d, %v, %d) is %v", n, x, view, got)
				}
			}
		}
	}
	for _, c := range []struct {
		n    int
		x    impl.Tally
		view int
		want []int
	}{
		{4, impl.Tally{}, 0, []int{0, 1, 2, 3}},
		{7, impl.Tally{}, 9, []int{0, 1, 2, 3, 4, 5, 6}},
		{4, viewTally(1, 9, 0, 8), 1, []int{1, 3}},
		{4, viewTally(1, 9, 0, 8), 0, []int{0, 1, 2, 3}},
		{4, viewTally(1, 9, 9, 9, 9), 1, nil},
		{4, viewTally(1, 0, 0, 0, 0, 9, 9, 9), 1, []int{0, 1, 2, 3}},
		{7, viewTally(1, 0, 0, 0, 0, 9, 9, 9), 1, []int{0, 1, 2, 3}},
		{4, viewTally(0, 9, 9), -1, []int{0, 1, 2, 3}},
		{4, viewTally(9, 9, 9), 10, []int{0, 1, 2, 3}},
	} {
		if got := impl.Silent(c.n, c.x, c.view); !slices.Equal(got, c.want) {
			t.Errorf("Silent(%d, %v, %d) is %v", c.n, c.x, c.view, got)
		}
	}
}

func TestVotersAndSilentAreComplete(t *testing.T) {
	for _, n := range []int{4, 7} {
		assignments(n, 2, func(vals []int) {
			for _, view := range []int{0, 6, 9} {
				x := viewTally(view, vals...)
				all := impl.Silent(n, x, view)
				for val := 1; val <= 60; val++ {
					all = append(all, impl.Voters(x, view, val)...)
				}
				slices.Sort(all)
				if len(all) != n || all[0] != 0 || all[n-1] != n-1 || len(slices.Compact(all)) != n {
					t.Fatal(n, view, vals, all)
				}
			}
		})
	}
}

// The sizes end with the greatest, and the first failure ends the test, lest a list of that size be built.
func TestSizesOfSilentAndOpen(t *testing.T) {
	for _, n := range otherSizes {
		for _, x := range []impl.Tally{{}, viewTally(2, 9, 9, 9, 9, 9, 9, 9), viewTally(2, 9, 8)} {
			if got := impl.Silent(n, x, 2); len(got) != 0 {
				t.Fatal("Silent", n, got)
			}
			if impl.Open(n, x, 2) {
				t.Fatal("Open", n)
			}
		}
	}
}

func TestJoined(t *testing.T) {
	a := tally(1, 0, 9, 3, 0, 9, 2, 5, 7)
	for _, c := range []struct{ a, b, want impl.Tally }{
		{impl.Tally{}, impl.Tally{}, impl.Tally{}},
		{a, impl.Tally{}, a},
		{impl.Tally{}, a, a},
		{a, a, a},
		{a, tally(1, 0, 8, 2, 5, 1), a},
		{tally(1, 0, 8, 2, 5, 1), a, tally(1, 0, 8, 3, 0, 9, 2, 5, 1)},
		{a, tally(0, 0, 1, 1, 0, 1, 2, 0, 1, 1, 5, 1, 2, 5, 1, 0, 9, 60), tally(0, 0, 1, 1, 0, 9, 2, 0, 1, 3, 0, 9, 1, 5, 1, 2, 5, 7, 0, 9, 60)},
		{tally(6, 9, 60), tally(0, 0, 1), tally(0, 0, 1, 6, 9, 60)},
		{a, fullTally(), withFirst(a, fullTally())},
		{fullTally(), a, fullTally()},
	} {
		got, ok := impl.Joined(c.a, c.b)
		wantTally(t, got, ok, c.want, true)
	}
}

// withFirst is the full tally b with the ballots of a in place of its own.
func withFirst(a, b impl.Tally) impl.Tally {
	for _, x := range a.L {
		b.L[x.View*7+x.From] = x
	}
	return b
}

func TestJoinedIsAddingOneByOne(t *testing.T) {
	l := append(mixedTallies(), validTallies()[:200]...)
	for i, a := range l {
		b := l[(i*7+3)%len(l)]
		want := a
		for _, x := range b.L {
			want, _ = impl.TallyAdd(want, x)
		}
		got, ok := impl.Joined(a, b)
		wantTally(t, got, ok, want, true)
		for _, x := range a.L {
			if val, ok := impl.Told(got, x.View, x.From); val != x.Val || !ok {
				t.Fatal(a, b, got)
			}
		}
	}
}

func TestOpenByHand(t *testing.T) {
	for _, c := range []struct {
		n    int
		x    impl.Tally
		want bool
	}{
		{4, impl.Tally{}, true},
		{7, impl.Tally{}, true},
		{4, viewTally(2, 9), true},
		{4, viewTally(2, 9, 8), true},
		{4, viewTally(2, 9, 8, 7), false},
		{4, viewTally(2, 9, 9, 8), true},
		{4, viewTally(2, 9, 9, 8, 8), false},
		{4, viewTally(2, 9, 9, 8, 9), true},
		{7, viewTally(2, 9, 8, 7), true},
		{7, viewTally(2, 9, 8, 7, 6), false},
		{7, viewTally(2, 9, 8, 7, 9), true},
		{7, viewTally(2, 9, 9, 8, 8, 7), false},
		{7, viewTally(2, 9, 9, 9, 8, 8, 8), false},
		{7, viewTally(2, 9, 9, 9, 8, 8), true},
		{7, viewTally(2, 9, 9, 9, 9, 8, 8, 8), false},
		{7, viewTally(2, 9, 9, 9, 9, 9, 8, 8), true},
		{4, viewTally(1, 9, 8, 7, 6), true},          // nothing in view 2
		{4, viewTally(2, 9, 9, 8, 8, 0, 0, 9), true}, // the document counts every ballot, of senders beyond n too
		{4, viewTally(2, 9, 8, 7, 6, 9, 9), true},
		{4, viewTally(2, 9, 8, 7, 6, 9), false},
	} {
		if got := impl.Open(c.n, c.x, 2); got != c.want {
			t.Errorf("Open(%d, %v, 2) is %v", c.n, c.x, got)
		}
	}
}

// Open is right exactly if the silent ones, all voting for one value, let it win.
func TestOpenIsAQuorumInReach(t *testing.T) {
	for _, n := range []int{4, 7} {
		assignments(n, 3, func(vals []int) {
			x := viewTally(9, vals...)
			want := false
			for val := 1; val <= 3; val++ {
				filled := x
				for from := range n {
					filled, _ = impl.TallyAdd(filled, ballot(from, 9, val))
				}
				_, won := impl.Winner(filled, 9, impl.Strong(n))
				want = want || won
			}
			if got := impl.Open(n, x, 9); got != want {
				t.Errorf("Open(%d, %v, 9) is %v", n, x, got)
			}
		})
	}
}

func TestOpenByItsFormula(t *testing.T) {
	for _, x := range validTallies() {
		for _, view := range someViews {
			for _, n := range []int{4, 7} {
				most := 0
				for val := 1; val <= 60; val++ {
					most = max(most, countIn(x, view, val))
				}
				want := most+len(silentIn(n, x, view)) >= n-n/3
				if got := impl.Open(n, x, view); got != want {
					t.Fatalf("Open(%d, %v, %d) is %v", n, x, view, got)
				}
			}
		}
	}
}

func TestInvalidTallies(t *testing.T) {
	good := tally(0, 2, 9, 1, 2, 9)
	for name, x := range invalidTallies() {
		if n := impl.Count(x, 2, 9); n != 0 {
			t.Error(name, "Count", n)
		}
		for from := range 7 {
			if val, ok := impl.Told(x, 2, from); val != 0 || ok {
				t.Error(name, "Told", val, ok)
			}
		}
		for _, need := range []int{math.MinInt, 0, 1, 2, 5, 8} {
			if val, ok := impl.Winner(x, 2, need); val != 0 || ok {
				t.Error(name, "Winner", val, ok)
			}
		}
		if got := impl.Voters(x, 2, 9); len(got) != 0 {
			t.Error(name, "Voters", got)
		}
		if got := impl.ViewsIn(x); len(got) != 0 {
			t.Error(name, "ViewsIn", got)
		}
		for _, n := range []int{4, 5, 7} {
			if got := impl.Silent(n, x, 2); len(got) != 0 {
				t.Error(name, "Silent", got)
			}
			if got := impl.Silent(n, x, 5); len(got) != 0 {
				t.Error(name, "Silent", got)
			}
			if impl.Open(n, x, 2) || impl.Open(n, x, 5) {
				t.Error(name, "Open", n)
			}
		}
		for _, pair := range [][2]impl.Tally{{x, good}, {good, x}, {x, {}}, {{}, x}, {x, x}} {
			if got, ok := impl.Joined(pair[0], pair[1]); ok || len(got.L) != 0 {
				t.Error(name, "Joined", got, ok)
			}
		}
	}
}

func TestTalliesAreNotModified(t *testing.T) {
	xs := append(mixedTallies(), impl.Tally{}, fullTally(), tally(3, 5, 9))
	for _, x := range invalidTallies() {
		if len(x.L) < 100 {
			xs = append(xs, x)
		}
	}
	for i, x := range xs {
		x, all := spareTally(x)
		y, rest := spareTally(xs[(i*11+5)%len(xs)])
		before, kept := slices.Clone(all), slices.Clone(rest)
		impl.TallyOk(x)
		impl.ViewsIn(x)
		for view := -1; view <= 10; view++ {
			for from := -1; from <= 7; from++ {
				impl.TallyAdd(x, ballot(from, view, 42))
				impl.Told(x, view, from)
				impl.Winner(x, view, from)
			}
			impl.Count(x, view, 9)
			impl.Voters(x, view, 9)
			impl.Silent(4, x, view)
			impl.Silent(7, x, view)
			impl.Open(4, x, view)
			impl.Open(7, x, view)
		}
		impl.Joined(x, y)
		impl.Joined(y, x)
		impl.Joined(x, x)
		if !slices.Equal(all, before) || !slices.Equal(rest, kept) {
			t.Fatalf("%v became %v, or %v became %v", before, all, kept, rest)
		}
	}
}

func TestBallotsBeyondTheLengthAreNotRead(t *testing.T) {
	full := viewTally(2, 9, 9, 9, 9)
	x := impl.Tally{L: full.L[:2]}
	if n := impl.Count(x, 2, 9); n != 2 {
		t.Error(n)
	}
	if val, ok := impl.Told(x, 2, 2); val != 0 || ok {
		t.Error(val, ok)
	}
	if val, ok := impl.Winner(x, 2, 3); val != 0 || ok {
		t.Error(val, ok)
	}
	if got := impl.Silent(4, x, 2); !slices.Equal(got, []int{2, 3}) {
		t.Error(got)
	}
	got, ok := impl.TallyAdd(x, ballot(3, 2, 8))
	wantTally(t, got, ok, viewTally(2, 9, 9, 0, 8), true)
	got, ok = impl.Joined(tally(0, 0, 1), x)
	wantTally(t, got, ok, tally(0, 0, 1, 0, 2, 9, 1, 2, 9), true)
	if spared, _ := spareTally(x); !impl.TallyOk(spared) {
		t.Error("what is behind the ballots was read")
	}
}

// scribble overwrites a result and the memory behind it.
func scribble[T any](l []T, with T) {
	l = l[:cap(l)]
	for i := range l {
		l[i] = with
	}
}

func TestTalliesShareNoMemory(t *testing.T) {
	bad := ballot(88, 88, 88)
	mixed := mixedTallies()
	for i, x := range append(mixed, impl.Tally{}, fullTally(), tally(3, 5, 9)) {
		x, all := spareTally(x)
		y, rest := spareTally(mixed[i%7])
		before, kept := slices.Clone(all), slices.Clone(rest)
		calls := []func() (impl.Tally, bool){
			func() (impl.Tally, bool) { return impl.TallyAdd(x, ballot(6, 9, 42)) },
			func() (impl.Tally, bool) { return impl.TallyAdd(x, ballot(3, 5, 42)) },
			func() (impl.Tally, bool) { return impl.Joined(x, y) },
			func() (impl.Tally, bool) { return impl.Joined(x, impl.Tally{}) },
			func() (impl.Tally, bool) { return impl.Joined(impl.Tally{}, y) },
			func() (impl.Tally, bool) { return impl.Joined(x, x) },
		}
		for k, call := range calls {
			first, _ := call()
			want := slices.Clone(first.L)
			second, _ := call()
			scribble(first.L, bad)
			third, _ := call()
			if !slices.Equal(second.L, want) || !slices.Equal(third.L, want) {
				t.Fatal(k, "shares memory with another result")
			}
			if !slices.Equal(all, before) || !slices.Equal(rest, kept) {
				t.Fatal(k, "shares memory with an argument")
			}
		}
	}
}

func TestListsOfTalliesShareNoMemory(t *testing.T) {
	x := viewTally(2, 9, 0, 9, 8)
	for k, call := range []func() []int{
		func() []int { return impl.Voters(x, 2, 9) },
		func() []int { return impl.ViewsIn(x) },
		func() []int { return impl.Silent(4, x, 2) },
		func() []int { return impl.Silent(7, x, 3) },
		func() []int { return impl.Silent(4, impl.Tally{}, 0) },
	} {
		first := call()
		want := slices.Clone(first)
		second := call()
		scribble(first, 88)
		if third := call(); len(want) == 0 || !slices.Equal(second, want) || !slices.Equal(third, want) {
			t.Error(k, want, second, third)
		}
	}
}

// The results are the same each time, though a map is ranged over in no fixed order.
func TestTalliesGiveTheSameEachTime(t *testing.T) {
	x := viewTally(3, 60, 9, 10, 9, 60, 10, 2)
	for range 200 {
		one, _ := impl.Winner(x, 3, 1)
		two, _ := impl.Winner(x, 3, 2)
		got, ok := impl.Joined(fullTally(), x)
		if one != 2 || two != 9 || !impl.Open(7, x, 2) || impl.Open(7, x, 3) {
			t.Fatal(one, two)
		}
		wantTally(t, got, ok, fullTally(), true)
	}
}
