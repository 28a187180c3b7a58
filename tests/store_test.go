package tests

import (
	"math"
	"slices"
	"testing"

	"loop.example/g00567/impl"
)

func TestStoreConstants(t *testing.T) {
	if impl.Keys != 4 || impl.CmGet != 0 || impl.CmPut != 1 || impl.CmAdd != 2 {
		t.Error(impl.Keys, impl.CmGet, impl.CmPut, impl.CmAdd)
	}
}

func TestCmdOk(t *testing.T) {
	for _, c := range validCmds() {
		if !impl.CmdOk(c) {
			t.Error(c)
		}
	}
	for _, c := range invalidCmds() {
		if impl.CmdOk(c) {
			t.Error(c)
		}
	}
}

func TestCmdOkByHand(t *testing.T) {
	for c, want := range map[impl.Cmd]bool{
		{}:                          true,
		{Kind: -1}:                  false,
		{Kind: 2}:                   true,
		{Kind: 3}:                   false,
		{Kind: 1, Key: -1}:          false,
		{Kind: 1, Key: 3}:           true,
		{Kind: 1, Key: 4}:           false,
		{Kind: 1, Key: 3, N: -1}:    false,
		{Kind: 1, Key: 3, N: 4}:     true,
		{Kind: 1, Key: 3, N: 5}:     false,
		{Kind: 2, Key: 3, N: 4}:     true,
		{Kind: 2, Key: 3, N: 5}:     false,
		{Kind: 2, Key: 0, N: -1}:    false,
		{Kind: 0, Key: 3}:           true,
		{Kind: 0, Key: 3, N: 1}:     false,
		{Kind: 0, Key: 3, N: -1}:    false,
		{Kind: 0, Key: 4}:           false,
		{Kind: 256 + 1, Key: 3}:     false,
		{Kind: 1, Key: 256}:         false,
		{Kind: 1, N: 256}:           false,
		{Kind: math.MinInt, Key: 1}: false,
	} {
		if impl.CmdOk(c) != want {
			t.Error(c)
		}
	}
}

func TestCmdVal(t *testing.T) {
	vals := validVals()
	for i, c := range validCmds() {
		if v := impl.CmdVal(c); v != vals[i] {
			t.Error(c, v, vals[i])
		}
	}
	for c, want := range map[impl.Cmd]int{get(0): 1, get(3): 16, put(0, 0): 21, put(2, 4): 35, put(3, 4): 40, add(0, 0): 41, add(1, 3): 49, add(3, 4): 60} {
		if v := impl.CmdVal(c); v != want {
			t.Error(c, v, want)
		}
	}
	for _, c := range invalidCmds() {
		if v := impl.CmdVal(c); v != 0 {
			t.Error(c, v)
		}
	}
}

func TestValCmd(t *testing.T) {
	cmds := validCmds()
	for i, v := range validVals() {
		if c, ok := impl.ValCmd(v); !ok || c != cmds[i] {
			t.Error(v, c, ok)
		}
	}
	for _, v := range idleVals() {
		if c, ok := impl.ValCmd(v); ok || c != (impl.Cmd{}) {
			t.Error(v, c, ok)
		}
	}
}

func TestCommandsAndValuesCorrespond(t *testing.T) {
	of := map[impl.Cmd]int{}
	for v := -300; v <= 600; v++ {
		c, ok := impl.ValCmd(v)
		if !ok {
			if c != (impl.Cmd{}) {
				t.Error(v, c)
			}
			continue
		}
		if !impl.ValOk(v) || !impl.CmdOk(c) || impl.CmdVal(c) != v {
			t.Error(v, c, impl.CmdVal(c))
		}
		if other, taken := of[c]; taken {
			t.Error(c, "is encoded as", other, "and", v)
		}
		of[c] = v
	}
	cmdOf := map[int]impl.Cmd{}
	for _, c := range validCmds() {
		v := impl.CmdVal(c)
		if back, ok := impl.ValCmd(v); !ok || back != c {
			t.Error(c, v, back, ok)
		}
		if other, taken := cmdOf[v]; taken {
			t.Error(v, "encodes", other, "and", c)
		}
		cmdOf[v] = c
	}
	if len(of) != 44 || len(cmdOf) != 44 {
		t.Error(len(of), len(cmdOf))
	}
}

func TestStoreNew(t *testing.T) {
	if s := impl.StoreNew(); !sameStore(s, store(0, 0, 0, 0, 0)) || !impl.StoreOk(s) {
		t.Error(s)
	}
}

func TestStoreOk(t *testing.T) {
	for _, s := range validStores() {
		if !impl.StoreOk(s) {
			t.Error(s)
		}
	}
	for name, s := range invalidStores() {
		if impl.StoreOk(s) {
			t.Error(name)
		}
	}
	for _, count := range someStored {
		if got := impl.StoreOk(store(count, 1, 2, 3, 4)); got != (0 <= count && count <= 1000) {
			t.Error(count, got)
		}
		for key := range 4 {
			s := store(3, 9, 9, 9, 9)
			s.Vals[key] = count
			if got := impl.StoreOk(s); got != (0 <= count && count <= 1000) {
				t.Error(s, got)
			}
		}
	}
	for size := range 10 {
		if got := impl.StoreOk(impl.Store{Vals: make([]int, size)}); got != (size == 4) {
			t.Error(size, got)
		}
	}
}

func TestStoreDo(t *testing.T) {
	for _, s := range validStores() {
		for _, c := range validCmds() {
			want, was := impl.Store{}, -1
			if s.Count < 1000 {
				want, was = executed(s, c)
			}
			got, n := impl.StoreDo(s, c)
			wantStore(t, got, n, want, was)
			if n != -1 && !impl.StoreOk(got) {
				t.Error(s, c, got)
			}
		}
	}
}

func TestStoreDoByHand(t *testing.T) {
	for _, x := range []struct {
		s      impl.Store
		c      impl.Cmd
		want   impl.Store
		result int
	}{
		{store(0, 0, 0, 0, 0), get(0), store(1, 0, 0, 0, 0), 0},
		{store(3, 5, 6, 7, 8), get(3), store(4, 5, 6, 7, 8), 8},
		{store(3, 5, 6, 7, 8), put(0, 4), store(4, 4, 6, 7, 8), 5},
		{store(3, 5, 6, 7, 8), put(2, 0), store(4, 5, 6, 0, 8), 7},
		{store(3, 5, 6, 7, 8), add(1, 3), store(4, 5, 9, 7, 8), 6},
		{store(3, 5, 6, 7, 8), add(1, 0), store(4, 5, 6, 7, 8), 6},
		{store(3, 5, 1000, 7, 8), put(1, 1), store(4, 5, 1, 7, 8), 1000},
		{store(3, 996, 6, 7, 8), add(0, 4), store(4, 1000, 6, 7, 8), 996},
		{store(3, 997, 6, 7, 8), add(0, 4), store(4, 997, 6, 7, 8), 997},
		{store(3, 5, 6, 7, 999), add(3, 1), store(4, 5, 6, 7, 1000), 999},
		{store(3, 5, 6, 7, 1000), add(3, 1), store(4, 5, 6, 7, 1000), 1000},
		{store(3, 5, 6, 7, 1000), add(3, 0), store(4, 5, 6, 7, 1000), 1000},
		{store(999, 5, 6, 7, 8), get(0), store(1000, 5, 6, 7, 8), 5},
		{store(999, 5, 6, 7, 8), put(0, 2), store(1000, 2, 6, 7, 8), 5},
		{store(999, 5, 6, 7, 1000), add(3, 2), store(1000, 5, 6, 7, 1000), 1000},
		{store(1000, 5, 6, 7, 8), get(0), impl.Store{}, -1},
		{store(1000, 5, 6, 7, 8), put(0, 2), impl.Store{}, -1},
		{store(1000, 5, 6, 7, 8), add(0, 2), impl.Store{}, -1},
		{store(1001, 5, 6, 7, 8), get(0), impl.Store{}, -1},
		{store(-1, 5, 6, 7, 8), get(0), impl.Store{}, -1},
	} {
		got, n := impl.StoreDo(x.s, x.c)
		wantStore(t, got, n, x.want, x.result)
	}
}

func TestStoreDoAtTheGreatestValue(t *testing.T) {
	for was := 990; was <= 1000; was++ {
		for n := range 5 {
			want := was + n
			if want > 1000 {
				want = was
			}
			got, result := impl.StoreDo(store(8, 3, was, 3, 3), add(1, n))
			wantStore(t, got, result, store(9, 3, want, 3, 3), was)
		}
	}
}

func TestStoreDoRefuses(t *testing.T) {
	for _, s := range validStores() {
		for _, c := range invalidCmds() {
			got, n := impl.StoreDo(s, c)
			wantStore(t, got, n, impl.Store{}, -1)
		}
	}
	for name, s := range invalidStores() {
		for _, c := range append(validCmds(), impl.Cmd{Kind: 3}) {
			if got, n := impl.StoreDo(s, c); n != -1 || !sameStore(got, impl.Store{}) {
				t.Error(name, c, got, n)
			}
		}
	}
}

func TestStoredValueIsReturned(t *testing.T) {
	for _, s := range validStores() {
		if s.Count > 998 {
			continue
		}
		for key := range 4 {
			for n := range 5 {
				after, _ := impl.StoreDo(s, put(key, n))
				if read, got := impl.StoreDo(after, get(key)); got != n || !impl.StoreSame(read, after) {
					t.Error(s, key, n, got, read)
				}
				for other := range 4 {
					if _, got := impl.StoreDo(after, get(other)); other != key && got != s.Vals[other] {
						t.Error(s, key, n, other, got)
					}
				}
			}
		}
	}
}

func TestStoreRun(t *testing.T) {
	for _, x := range mixedRuns() {
		want, results := ran(x.s, x.l)
		wantRun(t, x.s, x.l, want, results)
	}
}

func TestStoreRunByHand(t *testing.T) {
	wantRun(t, impl.StoreNew(), nil, impl.StoreNew(), nil)
	wantRun(t, impl.StoreNew(), []int{}, impl.StoreNew(), nil)
	wantRun(t, store(7, 1, 2, 3, 4), nil, store(7, 1, 2, 3, 4), nil)
	wantRun(t, store(1000, 1, 2, 3, 4), nil, store(1000, 1, 2, 3, 4), nil)
	wantRun(t, impl.StoreNew(), []int{35, 54, 2, 11}, store(3, 0, 0, 7, 0), []int{0, 4, -1, 7})
	wantRun(t, store(7, 1, 2, 3, 4), []int{2, 0, 61, -1, 20}, store(7, 1, 2, 3, 4), []int{-1, -1, -1, -1, -1})
	wantRun(t, store(997, 998, 0, 0, 0), []int{43, 43, 1}, store(1000, 1000, 0, 0, 0), []int{998, 1000, 1000})
}

func TestStoreRunIsStoreDoOneByOne(t *testing.T) {
	for _, x := range mixedRuns() {
		want := x.s
		var results []int
		for _, v := range x.l {
			c, ok := impl.ValCmd(v)
			if !ok {
				results = append(results, -1)
				continue
			}
			after, n := impl.StoreDo(want, c)
			want, results = after, append(results, n)
		}
		wantRun(t, x.s, x.l, want, results)
	}
}

func TestStoreRunInParts(t *testing.T) {
	for _, x := range mixedRuns() {
		whole, results, ok := impl.StoreRun(x.s, x.l)
		for at := range len(x.l) + 1 {
			first, front, ok1 := impl.StoreRun(x.s, x.l[:at])
			both, back, ok2 := impl.StoreRun(first, x.l[at:])
			if !ok || !ok1 || !ok2 || !sameStore(both, whole) || !slices.Equal(slices.Concat(front, back), results) {
				t.Error(x.s, x.l, "divided at", at, both, front, back)
			}
		}
	}
}

func TestSameCommandsLeadToTheSameContents(t *testing.T) {
	for _, x := range mixedRuns() {
		for _, count := range []int{0, 1, 1000 - len(x.l)} {
			other := cloneStore(x.s)
			other.Count = count
			a, first, ok1 := impl.StoreRun(x.s, x.l)
			b, second, ok2 := impl.StoreRun(other, x.l)
			if !ok1 || !ok2 || !impl.StoreSame(a, b) || !slices.Equal(first, second) || a.Count-x.s.Count != b.Count-count {
				t.Error(x.s, x.l, a, first, b, second)
			}
		}
	}
}

// The length of the list counts, whatever its elements encode.
func TestStoreRunUpToItsLimit(t *testing.T) {
	for _, count := range []int{0, 1, 500, 998, 999, 1000} {
		s := store(count, 1, 2, 3, 4)
		for v, added := range map[int]int{1: 1, 42: 1, 2: 0, 61: 0} {
			l := slices.Repeat([]int{v}, 1000-count)
			want, results := ran(s, l)
			wantRun(t, s, l, want, results)
			if want.Count != count+added*len(l) {
				t.Error(count, v, want)
			}
			for _, more := range []int{1, 2, 1000} {
				wantNoRun(t, s, append(l, slices.Repeat([]int{v}, more)...))
			}
		}
	}
	wantNoRun(t, impl.StoreNew(), make([]int, 1<<20))
}

func TestStoreRunRefusesInvalidStores(t *testing.T) {
	for _, s := range invalidStores() {
		for _, l := range [][]int{nil, {1}, {2}, {35, 54}} {
			wantNoRun(t, s, l)
		}
	}
}

// The values that a chain decides are commands for every replica's store.
func TestDecidedCommandsAreExecuted(t *testing.T) {
	for _, n := range []int{4, 7} {
		for _, faulty := range faultySets(n) {
			rows := someRows(n, 20)
			vals, ok := impl.Chain(n, rows, flagsOf(n, faulty...))
			if !ok {
				t.Fatal(n, faulty)
			}
			want, results := ran(impl.StoreNew(), vals)
			wantRun(t, impl.StoreNew(), vals, want, results)
		}
	}
}

func TestStoreSame(t *testing.T) {
	l := append(validStores(), store(9, 1, 2, 3, 4), store(9, 4, 3, 2, 1), store(7, 1, 2, 3, 5), store(7, 0, 2, 3, 4))
	for _, a := range l {
		for _, b := range l {
			if got := impl.StoreSame(a, cloneStore(b)); got != slices.Equal(a.Vals, b.Vals) {
				t.Error(a, b, got)
			}
		}
	}
	if !impl.StoreSame(store(0, 1, 2, 3, 4), store(1000, 1, 2, 3, 4)) {
		t.Error("the Counts are compared")
	}
	for name, s := range invalidStores() {
		if impl.StoreSame(s, s) || impl.StoreSame(s, cloneStore(s)) {
			t.Error(name, "is the same as itself")
		}
		for _, other := range append(l, store(5, 1, 2, 3, 4)) {
			if impl.StoreSame(s, other) || impl.StoreSame(other, s) {
				t.Error(name, other)
			}
		}
	}
}

func TestUndoRestoresTheStore(t *testing.T) {
	for _, s := range validStores() {
		for _, c := range validCmds() {
			if s.Count == 1000 {
				continue
			}
			after, was := impl.StoreDo(s, c)
			got, ok := impl.Undo(after, c, was)
			wantUndone(t, got, ok, s, true)
		}
	}
}

func TestUndoOfARun(t *testing.T) {
	for _, x := range mixedRuns() {
		s, results, _ := impl.StoreRun(x.s, x.l)
		for i, v := range slices.Backward(x.l) {
			if c, ok := impl.ValCmd(v); ok {
				s, ok = impl.Undo(s, c, results[i])
				if !ok {
					t.Fatal(x, i)
				}
			}
		}
		if !sameStore(s, x.s) {
			t.Error(x, s)
		}
	}
}

func TestUndoByHand(t *testing.T) {
	for _, x := range []struct {
		s    impl.Store
		c    impl.Cmd
		was  int
		want impl.Store
		ok   bool
	}{
		{store(1, 5, 6, 7, 8), put(2, 4), 0, store(0, 5, 6, 0, 8), true},
		{store(1, 5, 6, 7, 8), add(0, 0), 1000, store(0, 1000, 6, 7, 8), true},
		{store(1000, 5, 6, 7, 8), get(3), 9, store(999, 5, 6, 7, 9), true},
		{store(1, 5, 6, 7, 8), put(2, 4), -1, impl.Store{}, false},
		{store(1, 5, 6, 7, 8), put(2, 4), 1001, impl.Store{}, false},
		{store(0, 5, 6, 7, 8), put(2, 4), 0, impl.Store{}, false},
		{store(0, 5, 6, 7, 8), get(2), 7, impl.Store{}, false},
		{store(1001, 5, 6, 7, 8), get(2), 7, impl.Store{}, false},
	} {
		got, ok := impl.Undo(x.s, x.c, x.was)
		wantUndone(t, got, ok, x.want, x.ok)
	}
}

// What the command would have done is of no matter: the value becomes was, even for a CmGet.
func TestUndoByItsFormula(t *testing.T) {
	for _, s := range validStores() {
		for _, c := range validCmds() {
			for _, was := range someStored {
				got, ok := impl.Undo(s, c, was)
				if s.Count == 0 || was < 0 || was > 1000 {
					wantUndone(t, got, ok, impl.Store{}, false)
					continue
				}
				want := cloneStore(s)
				want.Vals[c.Key] = was
				want.Count = s.Count - 1
				wantUndone(t, got, ok, want, true)
			}
		}
	}
}

func TestUndoRefuses(t *testing.T) {
	for name, s := range invalidStores() {
		for _, c := range validCmds() {
			if got, ok := impl.Undo(s, c, 1); ok || !sameStore(got, impl.Store{}) {
				t.Error(name, c, got, ok)
			}
		}
	}
	for _, c := range invalidCmds() {
		got, ok := impl.Undo(store(7, 1, 2, 3, 4), c, 1)
		wantUndone(t, got, ok, impl.Store{}, false)
	}
}

func TestCmdText(t *testing.T) {
	for c, want := range map[impl.Cmd]string{
		get(0): "get 0", get(3): "get 3",
		put(0, 0): "put 0 0", put(2, 4): "put 2 4", put(3, 1): "put 3 1",
		add(0, 0): "add 0 0", add(1, 3): "add 1 3", add(3, 4): "add 3 4",
	} {
		if got := string(impl.CmdText(c)); got != want {
			t.Errorf("%v: %q", c, got)
		}
	}
	seen := map[string]impl.Cmd{}
	for _, c := range validCmds() {
		text := string(impl.CmdText(c))
		if other, taken := seen[text]; taken || text == "" {
			t.Errorf("%v and %v: %q", c, other, text)
		}
		seen[text] = c
	}
	for _, c := range invalidCmds() {
		if got := impl.CmdText(c); len(got) != 0 {
			t.Errorf("%v: %q", c, got)
		}
	}
}

func TestStoreText(t *testing.T) {
	for _, x := range []struct {
		s    impl.Store
		want string
	}{
		{impl.StoreNew(), "0 0 0 0 0"},
		{store(3, 0, 0, 7, 0), "3 0 0 7 0"},
		{store(12, 7, 42, 999, 1000), "12 7 42 999 1000"},
		{store(1000, 1000, 100, 10, 1), "1000 1000 100 10 1"},
	} {
		if got := string(impl.StoreText(x.s)); got != x.want {
			t.Errorf("%v: %q", x.s, got)
		}
	}
	for name, s := range invalidStores() {
		if got := impl.StoreText(s); len(got) != 0 {
			t.Errorf("%s: %q", name, got)
		}
	}
}
