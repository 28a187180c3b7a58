package tests

import (
	"math"
	"slices"
	"testing"

	"loop.example/g00567/impl"
)

// edgeVals are values of the mixed and small lists and numbers that are none.
var edgeVals = []int{math.MinInt, -1, 0, 1, 2, 9, 30, 59, 60, 61, 256, math.MaxInt}

func TestReportsExample(t *testing.T) {
	l := exampleReports()
	if !impl.ReportsOk(4, 2, l) || impl.Free(4, 2, l) || impl.Unbound(4, 2, l) != 1 {
		t.Error("one of three is unbound")
	}
	if impl.Grounds(4, 2, l, 5) != 1 || !impl.Safe(4, 2, l, 5) || impl.Supports(4, 2, l, 5) != 3 {
		t.Error("5 has the Grounds 1 and is safe")
	}
	if impl.Grounds(4, 2, l, 2) != 0 || impl.Safe(4, 2, l, 2) || impl.Supports(4, 2, l, 2) != 2 {
		t.Error("2 has the Grounds 0 and is not safe")
	}
	if impl.Grounds(4, 2, l, 9) != -1 || impl.Safe(4, 2, l, 9) || impl.Supports(4, 2, l, 9) != 1 {
		t.Error("9 has no Grounds and is not safe")
	}
	for _, own := range []int{1, 2, 5, 9, 60} {
		if val, ok := impl.Choose(4, 2, l, own); val != 5 || !ok {
			t.Error("Choose", own, val, ok)
		}
	}
	if got := impl.SafeVals(4, 2, l); !slices.Equal(got, []int{5}) {
		t.Error("SafeVals", got)
	}
	for val, want := range map[int][4]int{5: {2, 2, 0, 0}, 2: {2, 0, 0, 0}, 9: {0, 0, 0, 0}} {
		for from, n := range want {
			if got := impl.Witnesses(4, 2, l, val, from); got != n {
				t.Error("Witnesses", val, from, got)
			}
		}
	}
}

func TestReportsOk(t *testing.T) {
	for _, x := range validListings() {
		if !impl.ReportsOk(x.n, x.view, x.l) {
			t.Fatal(x, "is valid")
		}
	}
	for name, x := range invalidListings() {
		if impl.ReportsOk(x.n, x.view, x.l) {
			t.Error(name)
		}
	}
}

func TestReportsOkAtTheEdges(t *testing.T) {
	for _, n := range append([]int{4, 7}, otherSizes...) {
		for _, view := range someViews {
			good := (n == 4 || n == 7) && 1 <= view && view <= 9
			if got := impl.ReportsOk(n, view, nil); got != good {
				t.Error("no reports", n, view, got)
			}
			for _, from := range append([]int{n - 1, n}, someFroms...) {
				want := good && 0 <= from && from < n
				wantReport(t, n, view, reported(from, noLock), want)
				wantReport(t, n, view, reported(from, lockOn(0, 60), 0, 1), want)
				wantReport(t, n, view, reported(from, lockOn(view-1, 1)), want)
				wantReport(t, n, view, reported(from, noLock, view-1, 60), want)
				wantReport(t, n, view, reported(from, lockOn(view, 1)), false)
				wantReport(t, n, view, reported(from, noLock, view, 60), false)
				wantReport(t, n, view, reported(from, noLock, view-1, 60, view, 60), false)
			}
		}
	}
}

// wantReport checks whether r alone is valid, and can be added to no reports.
func wantReport(t *testing.T, n, view int, r impl.Report, want bool) {
	t.Helper()
	one := []impl.Report{r}
	if got := impl.ReportsOk(n, view, one); got != want {
		t.Errorf("ReportsOk(%d, %d, %v) is %v", n, view, one, got)
	}
	got, ok := impl.AddReport(n, view, nil, r)
	if !want {
		one = nil
	}
	wantReports(t, got, ok, one, want)
}

// A report is valid exactly if it forms a valid message.
func TestReportsFormMessages(t *testing.T) {
	check := func(m impl.Msg) {
		t.Helper()
		r := impl.Report{From: 1, Lock: m.Lock, Votes: m.Votes}
		for view := -1; view <= 10; view++ {
			m.View = view
			if got := impl.ReportsOk(4, view, []impl.Report{r}); got != impl.MsgOk(m) {
				t.Fatalf("ReportsOk(4, %d, %v) is %v", view, r, got)
			}
		}
	}
	for _, m := range reportMsgs() {
		check(m)
	}
	for _, m := range invalidMsgs() {
		if m.Kind == impl.MsReport && m.Val == 0 {
			check(m)
		}
	}
}

func TestAddReportInsertsInOrder(t *testing.T) {
	a, b := reported(1, lockOn(0, 9), 0, 9, 2, 8), reported(4, noLock, 1, 7)
	for _, from := range []int{0, 2, 3, 5, 6} {
		r := reported(from, lockOn(2, 60), 2, 60)
		want := []impl.Report{a, b, r}
		slices.SortFunc(want, func(x, y impl.Report) int { return x.From - y.From })
		got, ok := impl.AddReport(7, 3, []impl.Report{a, b}, r)
		wantReports(t, got, ok, want, true)
	}
	got, ok := impl.AddReport(4, 1, nil, reported(3, noLock))
	wantReports(t, got, ok, []impl.Report{reported(3, noLock)}, true)
	got, ok = impl.AddReport(4, 2, exampleReports(), reported(2, lockOn(1, 1), 1, 1))
	wantReports(t, got, ok, slices.Insert(exampleReports(), 2, reported(2, lockOn(1, 1), 1, 1)), true)
}

func TestAddedInAnyOrderTheReportsAreTheSame(t *testing.T) {
	for _, x := range mixedListings() {
		if len(x.l) != x.n {
			continue
		}
		for step := 1; step < x.n; step += 2 { // 1 and 3 of 4, and 1, 3 and 5 of 7 reach all
			var got []impl.Report
			ok := false
			for i := range x.l {
				if got, ok = impl.AddReport(x.n, x.view, got, x.l[(i*step+2)%x.n]); !ok || !impl.ReportsOk(x.n, x.view, got) || len(got) != i+1 {
					t.Fatal(x, step, got, ok)
				}
			}
			wantReports(t, got, ok, x.l, true)
		}
	}
}

func TestFirstReportRemains(t *testing.T) {
	for _, x := range validListings()[:1400] {
		for _, first := range x.l {
			others := []impl.Report{
				first,
				reported(first.From, noLock),
				reported(first.From, lockOn(x.view-1, 42), 0, 42),
				reported(first.From, first.Lock, x.view-1, 42),
			}
			for _, second := range others {
				got, ok := impl.AddReport(x.n, x.view, x.l, second)
				wantReports(t, got, ok, x.l, false)
				r, found := impl.ReportBy(x.n, x.view, got, first.From)
				if !found || !sameReport(r, first) {
					t.Fatal(x, second, r, found)
				}
			}
		}
	}
	l, ok := impl.AddReport(4, 2, nil, reported(2, lockOn(1, 9), 1, 9))
	wantReports(t, l, ok, []impl.Report{reported(2, lockOn(1, 9), 1, 9)}, true)
	l, ok = impl.AddReport(4, 2, l, reported(2, noLock, 0, 8))
	wantReports(t, l, ok, []impl.Report{reported(2, lockOn(1, 9), 1, 9)}, false)
}

func TestAddReportRefuses(t *testing.T) {
	for name, r := range invalidReports() {
		for _, l := range [][]impl.Report{nil, soundReports(), {reported(2, noLock)}, {reported(0, noLock), reported(3, noLock)}} {
			got, ok := impl.AddReport(4, 3, l, r)
			if ok || len(got) != 0 {
				t.Error(name, l, got, ok)
			}
		}
	}
	for name, x := range invalidListings() {
		for _, r := range []impl.Report{reported(2, noLock), reported(3, noLock), reported(1, lockOn(0, 5), 0, 5), reported(-1, noLock), reported(7, noLock)} {
			got, ok := impl.AddReport(x.n, x.view, x.l, r)
			if ok || len(got) != 0 {
				t.Error(name, r, got, ok)
			}
		}
	}
}

func TestWitnesses(t *testing.T) {
	for _, x := range validListings() {
		for _, val := range edgeVals {
			for _, from := range someViews {
				if got, want := impl.Witnesses(x.n, x.view, x.l, val, from), x.witnesses(val, from); got != want {
					t.Fatalf("%v: Witnesses of %d from %d are %d, want %d", x, val, from, got, want)
				}
			}
		}
	}
}

func TestWitnessesByHand(t *testing.T) {
	l := []impl.Report{
		reported(0, lockOn(8, 7)), // a lock is no vote
		reported(1, noLock, 0, 7, 3, 7, 8, 7),
		reported(2, noLock, 3, 7, 4, 6),
		reported(3, noLock, 3, 6),
	}
	for _, c := range [][3]int{
		{7, math.MinInt, 2}, {7, -1, 2}, {7, 0, 2}, {7, 1, 2}, {7, 3, 2}, {7, 4, 1}, {7, 8, 1}, {7, 9, 0}, {7, math.MaxInt, 0},
		{6, 0, 2}, {6, 3, 2}, {6, 4, 1}, {6, 5, 0}, {5, 0, 0}, {0, 0, 0}, {0, -1, 0},
	} {
		if got := impl.Witnesses(4, 9, l, c[0], c[1]); got != c[2] {
			t.Error(c, got)
		}
	}
}

func TestWitnessesDoNotGrowWithFrom(t *testing.T) {
	for _, x := range validListings() {
		for _, val := range []int{1, 2, 9, 60} {
			before := x.n
			for _, from := range someViews {
				got := impl.Witnesses(x.n, x.view, x.l, val, from)
				if got > before {
					t.Fatalf("%v: %d has %d witnesses from %d, and fewer before", x, val, got, from)
				}
				before = got
			}
			if before != 0 {
				t.Fatalf("%v: %d has witnesses beyond all views", x, val)
			}
		}
	}
}

func TestGrounds(t *testing.T) {
	seen := map[int]bool{}
	for _, x := range validListings() {
		for _, val := range edgeVals {
			got := impl.Grounds(x.n, x.view, x.l, val)
			if want := x.grounds(val); got != want {
				t.Fatalf("%v: Grounds of %d are %d, want %d", x, val, got, want)
			}
			seen[got] = true
		}
	}
	for want := -1; want <= 8; want++ {
		if !seen[want] {
			t.Error("no value has the Grounds", want)
		}
	}
}

func TestGroundsByHand(t *testing.T) {
	for _, c := range []struct {
		n, view int
		l       []impl.Report
		want    int // for 7
	}{
		{4, 1, nil, -1},
		{4, 1, []impl.Report{reported(0, noLock, 0, 7)}, -1},
		{4, 1, []impl.Report{reported(0, noLock, 0, 7), reported(3, noLock, 0, 7)}, 0},
		{4, 1, []impl.Report{reported(0, noLock, 0, 7), reported(3, noLock, 0, 6)}, -1},
		{4, 9, []impl.Report{reported(0, noLock, 8, 7), reported(3, noLock, 8, 7)}, 8},
		{4, 9, []impl.Report{reported(0, noLock, 8, 7), reported(3, noLock, 7, 7)}, 7},
		{4, 9, []impl.Report{reported(0, noLock, 8, 7), reported(3, noLock, 0, 7)}, 0},
		{4, 9, []impl.Report{reported(0, noLock, 2, 7, 5, 7), reported(1, lockOn(8, 7)), reported(3, noLock, 4, 7, 6, 6)}, 4},
		{4, 9, []impl.Report{reported(0, noLock, 0, 7, 1, 7, 2, 7, 3, 7, 4, 7)}, -1},
		{4, 3, []impl.Report{reported(0, noLock, 2, 7), reported(1, noLock, 1, 7), reported(2, noLock, 0, 7)}, 1},
		{7, 3, []impl.Report{reported(0, noLock, 2, 7), reported(1, noLock, 1, 7), reported(2, noLock, 0, 7)}, 0},
		{7, 3, []impl.Report{reported(0, noLock, 2, 7), reported(6, noLock, 2, 7)}, -1},
		{7, 3, []impl.Report{reported(0, noLock, 2, 7), reported(5, noLock, 2, 7), reported(6, noLock, 2, 7)}, 2},
		{7, 1, []impl.Report{reported(0, noLock, 0, 7), reported(5, noLock, 0, 7), reported(6, noLock, 0, 7)}, 0},
	} {
		if got := impl.Grounds(c.n, c.view, c.l, 7); got != c.want {
			t.Errorf("Grounds(%d, %d, %v, 7) is %d, want %d", c.n, c.view, c.l, got, c.want)
		}
	}
}

// quorumOf has the first unbound of many reports without a lock, and the others locked in view 0.
func quorumOf(many, unbound int) []impl.Report {
	var l []impl.Report
	for from := range many {
		if from < unbound {
			l = append(l, reported(from, noLock))
		} else {
			l = append(l, reported(from, lockOn(0, 9)))
		}
	}
	return l
}

func TestFreeAndUnbound(t *testing.T) {
	for _, n := range []int{4, 7} {
		for many := range n + 1 {
			for unbound := range many + 1 {
				l := quorumOf(many, unbound)
				if got := impl.Free(n, 1, l); got != (unbound >= strongOf(n)) {
					t.Error("Free", n, many, unbound, got)
				}
				if got := impl.Unbound(n, 1, l); got != unbound {
					t.Error("Unbound", n, many, unbound, got)
				}
			}
		}
	}
	for _, x := range validListings() {
		if got, want := impl.Free(x.n, x.view, x.l), x.free(); got != want {
			t.Fatal("Free", x, got)
		}
		if got, want := impl.Unbound(x.n, x.view, x.l), x.unbound(); got != want {
			t.Fatal("Unbound", x, got)
		}
	}
}

func TestSafeAndSupports(t *testing.T) {
	for _, x := range validListings() {
		for _, val := range edgeVals {
			if got, want := impl.Safe(x.n, x.view, x.l, val), x.safe(val); got != want {
				t.Fatalf("%v: Safe of %d is %v", x, val, got)
			}
			if got, want := impl.Supports(x.n, x.view, x.l, val), x.supports(val); got != want {
				t.Fatalf("%v: Supports of %d are %d, want %d", x, val, got, want)
			}
		}
	}
}

func TestSafeAndSupportsByHand(t *testing.T) {
	for _, c := range []struct {
		what     string
		n, view  int
		l        []impl.Report
		supports int // for 7
		want     bool
	}{
		{"no reports", 4, 1, nil, 0, false},
		{"unbound, a strong quorum", 4, 1, unboundReports(0, 1, 2), 3, true},
		{"unbound, one fewer", 4, 1, unboundReports(0, 1), 2, false},
		{"unbound, a strong quorum of 7", 7, 1, unboundReports(0, 2, 3, 5, 6), 5, true},
		{"unbound, one fewer of 7", 7, 1, unboundReports(0, 2, 3, 6), 4, false},
		{"locked on it, with grounds", 4, 1, []impl.Report{reported(0, lockOn(0, 7), 0, 7), reported(1, lockOn(0, 7), 0, 7), reported(2, lockOn(0, 7))}, 3, true},
		{"locked on it, one fewer", 4, 1, []impl.Report{reported(0, lockOn(0, 7), 0, 7), reported(1, lockOn(0, 7), 0, 7)}, 2, false},
		{"locked on it, without grounds", 4, 1, []impl.Report{reported(0, lockOn(0, 7), 0, 7), reported(1, lockOn(0, 7)), reported(2, lockOn(0, 7))}, 0, false},
		{"locked on it after its grounds", 4, 9, []impl.Report{reported(0, lockOn(8, 7), 3, 7), reported(1, lockOn(8, 7), 3, 7), reported(2, lockOn(4, 7))}, 3, true},
		{"one of four locked on another", 4, 1, []impl.Report{reported(0, noLock, 0, 7), reported(1, lockOn(0, 7), 0, 7), reported(2, noLock), reported(3, lockOn(0, 6))}, 3, true},
		{"two of four locked on another", 4, 1, []impl.Report{reported(0, noLock, 0, 7), reported(1, noLock, 0, 7), reported(2, lockOn(0, 6)), reported(3, lockOn(0, 6))}, 2, false},
		{"another lock before its grounds", 4, 5, []impl.Report{reported(0, noLock, 3, 7), reported(1, lockOn(2, 6), 3, 7), reported(2, lockOn(2, 5))}, 3, true},
		{"another lock in the view of its grounds", 4, 5, []impl.Report{reported(0, noLock, 3, 7), reported(1, lockOn(2, 6), 3, 7), reported(2, lockOn(3, 5))}, 2, false},
		{"another lock after its grounds", 4, 5, []impl.Report{reported(0, noLock, 3, 7), reported(1, lockOn(2, 6), 3, 7), reported(2, lockOn(4, 5))}, 2, false},
		{"grounds are the witnesses' least", 4, 5, []impl.Report{reported(0, noLock, 4, 7), reported(1, lockOn(2, 6), 2, 7), reported(2, noLock)}, 2, false},
		{"another lock in view 0, grounds at 0", 4, 5, []impl.Report{reported(0, noLock, 0, 7), reported(1, noLock, 0, 7), reported(2, lockOn(0, 5))}, 2, false},
		{"another lock in view 0, grounds at 1", 4, 5, []impl.Report{reported(0, noLock, 1, 7), reported(1, noLock, 1, 7), reported(2, lockOn(0, 5))}, 3, true},
		{"other locks, grounds at view - 1", 4, 9, []impl.Report{reported(0, lockOn(7, 5), 8, 7), reported(1, lockOn(7, 6), 8, 7), reported(2, lockOn(7, 4))}, 3, true},
		{"a strong quorum of 7", 7, 3, []impl.Report{reported(0, lockOn(2, 7), 1, 7), reported(1, noLock, 1, 7), reported(2, lockOn(0, 5), 1, 7), reported(3, lockOn(0, 7)), reported(5, lockOn(0, 6)), reported(6, lockOn(1, 6))}, 5, true},
		{"one fewer of 7", 7, 3, []impl.Report{reported(0, lockOn(2, 7), 1, 7), reported(1, noLock, 1, 7), reported(2, lockOn(0, 5), 1, 7), reported(3, lockOn(0, 7)), reported(5, lockOn(1, 6)), reported(6, lockOn(1, 6))}, 4, false},
	} {
		if got := impl.Safe(c.n, c.view, c.l, 7); got != c.want {
			t.Error(c.what, "Safe", got)
		}
		if got := impl.Supports(c.n, c.view, c.l, 7); got != c.supports {
			t.Error(c.what, "Supports", got)
		}
		if got := slices.Contains(impl.SafeVals(c.n, c.view, c.l), 7); got != c.want {
			t.Error(c.what, "SafeVals", got)
		}
	}
}

// Safe counts for a value what Supports returns.
func TestSafeIsSupported(t *testing.T) {
	for _, x := range validListings() {
		for val := 1; val <= 60; val++ {
			if got := impl.Supports(x.n, x.view, x.l, val) >= strongOf(x.n); got != impl.Safe(x.n, x.view, x.l, val) {
				t.Fatal(x, val, got)
			}
		}
	}
}

func TestSafeValueRemainsSafe(t *testing.T) {
	remained := 0
	next := recurrence()
	for _, x := range validListings() {
		safe := impl.SafeVals(x.n, x.view, x.l)
		for _, from := range x.absent() {
			more := []impl.Report{
				mixedReport(next, from, x.view, 4),
				reported(from, lockOn(x.view-1, 42), x.view-1, 42),
				reported(from, lockOn(x.view-1, 1), 0, 2),
				reported(from, lockOn(0, 2), 0, 1),
				reported(from, noLock),
			}
			for _, r := range more {
				l, ok := impl.AddReport(x.n, x.view, x.l, r)
				if !ok {
					t.Fatal(x, r)
				}
				for _, val := range safe {
					if !impl.Safe(x.n, x.view, l, val) {
						t.Fatalf("%v: %d is no longer safe with %v", x, val, r)
					}
					remained++
				}
				if impl.Free(x.n, x.view, x.l) && !impl.Free(x.n, x.view, l) {
					t.Fatalf("%v: no longer free with %v", x, r)
				}
			}
		}
	}
	if remained == 0 {
		t.Error("nothing was safe")
	}
}

func TestFreeReportsAndGrounds(t *testing.T) {
	free, bound := 0, 0
	for _, x := range validListings() {
		isFree := impl.Free(x.n, x.view, x.l)
		for val := 1; val <= 60; val++ {
			isSafe := impl.Safe(x.n, x.view, x.l, val)
			if isFree {
				free++
				if !isSafe {
					t.Fatalf("%v: free, and %d is not safe", x, val)
				}
			} else if isSafe {
				bound++
				if impl.Grounds(x.n, x.view, x.l, val) == -1 {
					t.Fatalf("%v: not free, and %d is safe without grounds", x, val)
				}
			}
		}
	}
	if free == 0 || bound == 0 {
		t.Error(free, bound)
	}
}

func TestChoose(t *testing.T) {
	for _, x := range validListings() {
		for _, own := range edgeVals {
			want, found := x.choose(own)
			if got, ok := impl.Choose(x.n, x.view, x.l, own); got != want || ok != found {
				t.Fatalf("%v: Choose of %d is %d %v, want %d %v", x, own, got, ok, want, found)
			}
		}
	}
}

func TestChosenValueIsSafe(t *testing.T) {
	free, bound, none := 0, 0, 0
	for _, x := range validListings() {
		safe := impl.SafeVals(x.n, x.view, x.l)
		for _, own := range []int{1, 2, 9, 60} {
			val, ok := impl.Choose(x.n, x.view, x.l, own)
			if !ok {
				none++
				if val != 0 || len(safe) != 0 {
					t.Fatal(x, own, val, safe)
				}
				continue
			}
			if !impl.Safe(x.n, x.view, x.l, val) || !slices.Contains(safe, val) {
				t.Fatal(x, own, val, safe)
			}
			if impl.Free(x.n, x.view, x.l) {
				free++
			} else {
				bound++
			}
		}
	}
	if free == 0 || bound == 0 || none == 0 {
		t.Error(free, bound, none)
	}
}

func TestChooseByHand(t *testing.T) {
	tied := func(a, b int) []impl.Report {
		return []impl.Report{reported(0, lockOn(0, 40), 1, a, 2, b), reported(1, lockOn(0, 40), 1, b, 2, a), reported(2, noLock, 1, b, 2, b), reported(3, noLock, 1, a, 2, a)}
	}
	for _, c := range []struct {
		what    string
		n, view int
		l       []impl.Report
		val     int
		ok      bool
	}{
		{"no reports", 4, 1, nil, 0, false},
		{"free", 4, 1, unboundReports(1, 2, 3), 33, true},
		{"free, whatever has grounds", 4, 2, []impl.Report{reported(0, noLock, 1, 7), reported(1, noLock, 1, 7), reported(2, noLock, 1, 7), reported(3, lockOn(1, 7), 1, 7)}, 33, true},
		{"one fewer than free", 4, 1, unboundReports(1, 3), 0, false},
		{"free of 7", 7, 9, unboundReports(0, 1, 2, 3, 4), 33, true},
		{"one fewer than free of 7", 7, 9, unboundReports(0, 1, 2, 3), 0, false},
		{"the same grounds", 4, 3, tied(7, 6), 6, true},
		{"the same grounds, the other way", 4, 3, tied(6, 7), 6, true},
		{"the same grounds, 1 and 60", 4, 3, tied(60, 1), 1, true},
		{"the greatest grounds, not the smallest value", 4, 3, []impl.Report{reported(0, lockOn(0, 40), 1, 6, 2, 50), reported(1, lockOn(0, 40), 1, 6, 2, 50), reported(2, noLock, 1, 6)}, 50, true},
		{"the greatest grounds, not the most witnesses", 4, 3, []impl.Report{reported(0, lockOn(0, 40), 1, 60, 2, 5), reported(1, lockOn(0, 40), 1, 60, 2, 5), reported(2, noLock, 1, 60)}, 5, true},
		{"greater grounds without support", 4, 3, []impl.Report{reported(0, lockOn(1, 6), 1, 6, 2, 7), reported(1, lockOn(2, 6), 1, 6, 2, 7), reported(2, lockOn(2, 6))}, 6, true},
		{"two locks on different values", 4, 1, []impl.Report{reported(0, lockOn(0, 6), 0, 6), reported(1, lockOn(0, 7), 0, 7), reported(2, lockOn(0, 8), 0, 8)}, 0, false},
		{"own is not safe", 4, 1, []impl.Report{reported(0, lockOn(0, 60), 0, 60), reported(1, noLock, 0, 60), reported(3, noLock, 0, 33)}, 60, true},
		{"grounds at 0 alone", 4, 9, []impl.Report{reported(0, lockOn(8, 1), 0, 1), reported(1, lockOn(8, 1), 0, 1), reported(3, lockOn(8, 1))}, 1, true},
	} {
		if val, ok := impl.Choose(c.n, c.view, c.l, 33); val != c.val || ok != c.ok {
			t.Error(c.what, val, ok)
		}
	}
}

func TestChooseOwn(t *testing.T) {
	for _, own := range someVals {
		isVal := 1 <= own && own <= 60
		val, ok := impl.Choose(4, 1, unboundReports(0, 1, 2), own)
		if ok != isVal || isVal && val != own || !isVal && val != 0 {
			t.Error("free", own, val, ok)
		}
		val, ok = impl.Choose(4, 2, exampleReports(), own)
		if ok != isVal || isVal && val != 5 || !isVal && val != 0 {
			t.Error("bound", own, val, ok)
		}
	}
}

func TestSafeVals(t *testing.T) {
	for _, x := range validListings() {
		got := impl.SafeVals(x.n, x.view, x.l)
		if want := x.safeVals(); !slices.Equal(got, want) {
			t.Fatal(x, got, want)
		}
		if impl.Free(x.n, x.view, x.l) && (len(got) != 60 || got[0] != 1 || got[59] != 60) {
			t.Fatal(x, got)
		}
	}
	l := []impl.Report{reported(0, lockOn(0, 40), 1, 60, 2, 1), reported(1, lockOn(0, 40), 1, 60, 2, 1), reported(2, noLock)}
	if got := impl.SafeVals(4, 3, l); !slices.Equal(got, []int{1, 60}) {
		t.Error(got)
	}
	if got := impl.SafeVals(4, 3, l[:2]); len(got) != 0 {
		t.Error(got)
	}
}

func TestReportBy(t *testing.T) {
	for _, x := range validListings() {
		for _, from := range someFroms {
			var want impl.Report
			at := slices.IndexFunc(x.l, func(r impl.Report) bool { return r.From == from })
			if at >= 0 {
				want = x.l[at]
			}
			if got, ok := impl.ReportBy(x.n, x.view, x.l, from); ok != (at >= 0) || !sameReport(got, want) {
				t.Fatal(x, from, got, ok)
			}
		}
	}
	got, ok := impl.ReportBy(4, 2, exampleReports(), 3)
	if !ok || !sameReport(got, reported(3, lockOn(0, 2), 0, 2)) {
		t.Error(got, ok)
	}
	got, ok = impl.ReportBy(4, 2, exampleReports(), 2)
	if ok || !sameReport(got, impl.Report{}) {
		t.Error(got, ok)
	}
}

// lockedAll has reports of all replicas but those in out: each voted for val in view at, and is locked on it there.
func lockedAll(n, at, val int, out ...int) []impl.Report {
	var l []impl.Report
	for from := range n {
		if !slices.Contains(out, from) {
			l = append(l, reported(from, lockOn(at, val), at, val))
		}
	}
	return l
}

// wantAlone checks that no value but val is safe, and that it is exactly if held.
func wantAlone(t *testing.T, n, view int, l []impl.Report, val int, held bool) {
	t.Helper()
	got := impl.SafeVals(n, view, l)
	if held && !slices.Equal(got, []int{val}) || !held && len(got) != 0 {
		t.Fatalf("%d %d %v: %v are safe, want %d alone", n, view, l, got, val)
	}
	if chosen, ok := impl.Choose(n, view, l, 33); ok != held || held && chosen != val {
		t.Fatalf("%d %d %v: %d is chosen, want %d", n, view, l, chosen, val)
	}
	for _, other := range []int{val - 1, val + 1, 1, 33, 60} {
		if other != val && impl.Safe(n, view, l, other) {
			t.Fatalf("%d %d %v: %d is safe, want %d alone", n, view, l, other, val)
		}
	}
}

func TestLockedValueIsSafeAlone(t *testing.T) {
	for _, out := range []int{0, 1, 2, 3} {
		for view := 1; view <= 9; view++ {
			for at := range view {
				l := lockedAll(4, at, 9, out)
				wantAlone(t, 4, view, l, 9, true)
				for lock := -1; lock < 2*view; lock++ {
					for vote := -1; vote < 2*view; vote++ {
						r := reported(out, noLock)
						if lock >= 0 {
							r.Lock = lockOn(lock/2, 8+lock%2)
						}
						if vote >= 0 {
							r.Votes = votes(vote/2, 8+vote%2)
						}
						more, ok := impl.AddReport(4, view, l, r)
						if !ok {
							t.Fatal(r)
						}
						wantAlone(t, 4, view, more, 9, true)
					}
				}
			}
		}
	}
}

// The liar votes for one other value in every view, and the honest ones did before they voted for 9.
func TestLockedValueIsSafeAloneDespiteEarlierVotes(t *testing.T) {
	for at := 0; at < 8; at++ {
		for lock := -1; lock < 9; lock++ {
			liar := reported(2, noLock, 0, 8, 1, 8, 2, 8, 3, 8, 4, 8, 5, 8, 6, 8, 7, 8, 8, 8)
			if lock >= 0 {
				liar.Lock = lockOn(lock, 8)
			}
			l := lockedAll(4, at, 9, 2)
			for i := range l {
				var before []impl.Vote
				for v := range at {
					before = append(before, impl.Vote{View: v, Val: 8})
				}
				l[i].Votes = append(before, l[i].Votes...)
			}
			l, ok := impl.AddReport(4, 9, l, liar)
			if !ok {
				t.Fatal(liar)
			}
			wantAlone(t, 4, 9, l, 9, true)
		}
	}
}

// With the report of one honest replica missing, too, nothing else is safe; 9 may be none either.
func TestLockedValueIsSafeAloneByAQuorum(t *testing.T) {
	for _, absent := range []int{0, 1, 3} {
		for _, liar := range []impl.Report{reported(2, noLock, 1, 8, 4, 8), reported(2, lockOn(4, 9), 4, 8), reported(2, lockOn(4, 8), 4, 8)} {
			l := lockedAll(4, 2, 9, 2, absent)
			l, ok := impl.AddReport(4, 5, l, liar)
			if !ok {
				t.Fatal(liar)
			}
			wantAlone(t, 4, 5, l, 9, liar.Lock.Val != 8)
		}
	}
}

func TestLockedValueIsSafeAloneOf7(t *testing.T) {
	for _, at := range []int{0, 3, 8} {
		base := lockedAll(7, at, 9, 2, 6)
		wantAlone(t, 7, 9, base, 9, true)
		for _, a := range liesOf(2) {
			for _, b := range liesOf(6) {
				l, okA := impl.AddReport(7, 9, base, a)
				l, okB := impl.AddReport(7, 9, l, b)
				if !okA || !okB {
					t.Fatal(a, b)
				}
				wantAlone(t, 7, 9, l, 9, true)
			}
		}
	}
}

// liesOf returns reports for view 9 that speak for 8.
func liesOf(from int) []impl.Report {
	var l []impl.Report
	for _, view := range []int{0, 2, 3, 4, 8} {
		l = append(l, reported(from, noLock, view, 8), reported(from, lockOn(view, 8), view, 8), reported(from, lockOn(8, 8), view, 8))
	}
	return append(l, reported(from, noLock), reported(from, lockOn(0, 9), 8, 8))
}

func TestInvalidReports(t *testing.T) {
	for name, x := range invalidListings() {
		for _, val := range []int{0, 5, 7, 9} {
			for _, from := range []int{-1, 0, 1, 10} {
				if got := impl.Witnesses(x.n, x.view, x.l, val, from); got != 0 {
					t.Error(name, "Witnesses", got)
				}
			}
			if got := impl.Grounds(x.n, x.view, x.l, val); got != -1 {
				t.Error(name, "Grounds", got)
			}
			if impl.Safe(x.n, x.view, x.l, val) {
				t.Error(name, "Safe", val)
			}
			if got, ok := impl.Choose(x.n, x.view, x.l, val); got != 0 || ok {
				t.Error(name, "Choose", got, ok)
			}
			if got := impl.Supports(x.n, x.view, x.l, val); got != -1 {
				t.Error(name, "Supports", got)
			}
		}
		if impl.Free(x.n, x.view, x.l) {
			t.Error(name, "Free")
		}
		if got := impl.Unbound(x.n, x.view, x.l); got != -1 {
			t.Error(name, "Unbound", got)
		}
		for _, from := range someFroms {
			if got, ok := impl.ReportBy(x.n, x.view, x.l, from); ok || !sameReport(got, impl.Report{}) {
				t.Error(name, "ReportBy", got, ok)
			}
		}
		if got := impl.SafeVals(x.n, x.view, x.l); len(got) != 0 {
			t.Error(name, "SafeVals", got)
		}
	}
}

func callAllOfSafety(x listing) {
	impl.ReportsOk(x.n, x.view, x.l)
	impl.Free(x.n, x.view, x.l)
	impl.Unbound(x.n, x.view, x.l)
	impl.SafeVals(x.n, x.view, x.l)
	for _, val := range []int{0, 5, 9} {
		impl.Witnesses(x.n, x.view, x.l, val, 0)
		impl.Grounds(x.n, x.view, x.l, val)
		impl.Safe(x.n, x.view, x.l, val)
		impl.Choose(x.n, x.view, x.l, val)
		impl.Supports(x.n, x.view, x.l, val)
	}
	for from := -1; from <= 7; from++ {
		impl.ReportBy(x.n, x.view, x.l, from)
		impl.AddReport(x.n, x.view, x.l, reported(from, lockOn(0, 42), 0, 42))
	}
}

func TestReportsAreNotModified(t *testing.T) {
	xs := append(mixedListings(), listing{4, 2, exampleReports()}, listing{7, 9, nil})
	for _, x := range invalidListings() {
		if len(x.l) < 100 {
			xs = append(xs, x)
		}
	}
	for _, x := range xs {
		var kept func() bool
		x.l, kept = spareReports(x.l)
		callAllOfSafety(x)
		if !kept() {
			t.Fatal(x)
		}
	}
	added, kept := spareReports([]impl.Report{reported(2, noLock, 1, 5)})
	impl.AddReport(4, 2, exampleReports(), added[0])
	impl.AddReport(4, 2, unboundReports(2), added[0])
	impl.AddReport(4, 1, exampleReports(), added[0])
	if !kept() {
		t.Error(added)
	}
}

func TestReportsBeyondTheLengthAreNotRead(t *testing.T) {
	l := unboundReports(0, 1, 2)[:2]
	if impl.Free(4, 1, l) || impl.Unbound(4, 1, l) != 2 || impl.Safe(4, 1, l, 9) {
		t.Error("three were read")
	}
	if got, ok := impl.ReportBy(4, 1, l, 2); ok || !sameReport(got, impl.Report{}) {
		t.Error(got, ok)
	}
	got, ok := impl.AddReport(4, 1, l, reported(2, lockOn(0, 9)))
	wantReports(t, got, ok, append(unboundReports(0, 1), reported(2, lockOn(0, 9))), true)
	r := reported(0, noLock, 0, 9, 3, 9)
	r.Votes = r.Votes[:1]
	if n := impl.Witnesses(4, 2, []impl.Report{r}, 9, 0); n != 1 || impl.Witnesses(4, 2, []impl.Report{r}, 9, 1) != 0 {
		t.Error(n)
	}
	got, ok = impl.AddReport(4, 2, nil, r)
	wantReports(t, got, ok, []impl.Report{reported(0, noLock, 0, 9)}, true)
}

// wantNewReports checks that the lists that call returns share no memory, with each other or with what kept watches.
func wantNewReports(t *testing.T, call func() []impl.Report, kept func() bool) {
	t.Helper()
	first := call()
	want := cloneReports(first)
	second := call()
	scribbleReports(first)
	if third := call(); !sameReports(second, want) || !sameReports(third, want) {
		t.Fatal("a result shares memory with another")
	}
	wantApart(t, second)
	if !kept() {
		t.Fatal("a result shares memory with an argument")
	}
}

func TestReportsShareNoMemory(t *testing.T) {
	for _, x := range append(mixedListings(), listing{4, 2, exampleReports()}, listing{7, 9, nil}) {
		l, kept := spareReports(x.l)
		added, keptToo := spareReports([]impl.Report{reported(1, lockOn(0, 42), 0, 42)})
		both := func() bool { return kept() && keptToo() }
		for from := range x.n {
			r := added[0]
			r.From = from
			wantNewReports(t, func() []impl.Report {
				out, _ := impl.AddReport(x.n, x.view, l, r)
				return out
			}, both)
			wantNewReports(t, func() []impl.Report {
				out, _ := impl.ReportBy(x.n, x.view, l, from)
				return []impl.Report{out}
			}, both)
		}
	}
}

// The votes of a result are apart even if those of the arguments are not.
func TestSharedVotesAreParted(t *testing.T) {
	voted := votes(0, 5, 1, 6)
	l := []impl.Report{{From: 0, Votes: voted}, {From: 1, Votes: voted}, {From: 2, Votes: voted[:1]}}
	for _, from := range []int{2, 3} {
		got, _ := impl.AddReport(4, 2, l, impl.Report{From: from, Votes: voted})
		wantApart(t, got)
		if !slices.Equal(voted, votes(0, 5, 1, 6)) {
			t.Error(voted)
		}
	}
}

func TestSafeValsShareNoMemory(t *testing.T) {
	for _, x := range []listing{{4, 2, exampleReports()}, {4, 1, unboundReports(0, 1, 3)}, {7, 9, unboundReports(0, 1, 2, 3, 4, 5, 6)}} {
		first := impl.SafeVals(x.n, x.view, x.l)
		want := slices.Clone(first)
		second := impl.SafeVals(x.n, x.view, x.l)
		scribble(first, 88)
		if third := impl.SafeVals(x.n, x.view, x.l); len(want) == 0 || !slices.Equal(second, want) || !slices.Equal(third, want) {
			t.Error(x, want, second, third)
		}
	}
}
