package tests

import (
	"runtime"
	"slices"
	"testing"

	"loop.example/g00567/impl"
)

// storeResults are the results that are stores, of calls with s, with and without effect.
func storeResults(s impl.Store, l []int) map[string]impl.Store {
	all := map[string]impl.Store{}
	for name, c := range map[string]impl.Cmd{"get": get(1), "put": put(2, 3), "add": add(0, 1), "add 0": add(3, 0), "add too much": add(3, 4), "none": get(4)} {
		all["StoreDo "+name], _ = impl.StoreDo(s, c)
		all["Undo "+name], _ = impl.Undo(s, c, 3)
	}
	all["Undo without effect"], _ = impl.Undo(s, get(0), 1)
	all["Undo of too much"], _ = impl.Undo(s, put(0, 1), 1001)
	for name, l := range map[string][]int{"l": l, "nothing": nil, "no commands": {2, 61}, "gets": {1, 6}} {
		all["StoreRun of "+name], _, _ = impl.StoreRun(s, l)
	}
	return all
}

// memoryStores are valid ones and, of those that are not, the small ones.
func memoryStores() []impl.Store {
	l := validStores()
	for _, s := range invalidStores() {
		if len(s.Vals) < 1000 {
			l = append(l, s)
		}
	}
	return l
}

func TestStoresAreNotModified(t *testing.T) {
	for _, plain := range memoryStores() {
		s, kept := spareStore(plain)
		other, keptOther := spareStore(plain)
		for _, plainList := range [][]int{nil, {35, 54, 2, 11}, {2}, {61, 1}, slices.Repeat([]int{60}, 20)} {
			l, keptList := spareList(plainList)
			want := storeResults(plain, plainList)
			for name, got := range storeResults(s, l) {
				if !sameStore(got, want[name]) {
					t.Fatal(name, got, want[name], "what is behind the slices was read")
				}
			}
			_, results, ok := impl.StoreRun(s, l)
			_, wantResults, wantOk := impl.StoreRun(plain, plainList)
			if ok != wantOk || !slices.Equal(results, wantResults) {
				t.Fatal(plain, plainList, results, "what is behind the slices was read")
			}
			if !keptList() {
				t.Fatal(plain, plainList, "was modified")
			}
		}
		if impl.StoreOk(s) != impl.StoreOk(plain) || impl.StoreSame(s, other) != impl.StoreOk(plain) {
			t.Fatal(plain, "what is behind the values was read")
		}
		if !slices.Equal(impl.StoreText(s), impl.StoreText(plain)) {
			t.Fatal(plain, "what is behind the values was read")
		}
		if !kept() || !keptOther() {
			t.Fatal(plain, "was modified")
		}
	}
}

// Elements behind the slices are not read, although they would make the store or the list invalid or valid.
func TestNumbersBeyondTheLengthsAreNotRead(t *testing.T) {
	room := []int{1, 2, 3, 4, 1001}
	for size := range 6 {
		if got := impl.StoreOk(impl.Store{Vals: room[:size]}); got != (size == 4) {
			t.Error(size, got)
		}
	}
	wantRun(t, store(999, 1, 2, 3, 4), []int{1, 1, 1}[:1], store(1000, 1, 2, 3, 4), []int{1})
	wantRun(t, store(1000, 1, 2, 3, 4), []int{1}[:0], store(1000, 1, 2, 3, 4), nil)
	l := replies(0, 1, 9, 1, 1, 9, 2, 1, 61)
	wantAccepted(t, 4, l[:1], 1, 0, false)
	wantAccepted(t, 4, l[:2], 1, 9, true)
}

func TestRepliesAreNotModified(t *testing.T) {
	lists := [][]impl.Ballot{nil, replies(3, 1, 9, 0, 1, 9, 3, 1, 8), replies(3, 1, 9, 4, 1, 9), replies(3, 9, 61, 0, 1, 9)}
	for _, x := range mixedTallies()[:20] {
		slices.Reverse(x.L)
		lists = append(lists, x.L)
	}
	for _, plain := range lists {
		x, all := spareTally(impl.Tally{L: plain})
		before := slices.Clone(all)
		for _, n := range []int{4, 5, 7} {
			for seq := -1; seq <= 10; seq++ {
				val, ok := impl.Accepted(n, x.L, seq)
				wantAccepted(t, n, plain, seq, val, ok)
			}
		}
		if !slices.Equal(all, before) {
			t.Fatal(before, "became", all)
		}
	}
}

func TestResultsOfStoresShareNoMemory(t *testing.T) {
	for _, s := range memoryStores() {
		s, _ = spareStore(s)
		l, _ := spareList([]int{35, 54, 2, 11})
		args := []span{spanOf("the argument's Vals", s.Vals), spanOf("the list", l)}
		var results []span
		for name, got := range storeResults(s, l) {
			results = append(results, spanOf(name, got.Vals))
		}
		fresh, again := impl.StoreNew(), impl.StoreNew()
		results = append(results, spanOf("StoreNew", fresh.Vals), spanOf("StoreNew again", again.Vals))
		for _, l := range [][]int{l, l[:1], {2}} {
			got, told, _ := impl.StoreRun(s, l)
			results = append(results, spanOf("StoreRun", got.Vals), spanOf("the results of StoreRun", told))
		}
		if wrong := overlap(results, args); wrong != "" {
			t.Fatal(s, wrong)
		}
		runtime.KeepAlive(s) // what is no longer used could become a part of a result
		runtime.KeepAlive(l)
	}
}

// What is done to a result is not seen in the argument or in a later result.
func TestChangedResultsOfStores(t *testing.T) {
	for _, s := range memoryStores() {
		before := cloneStore(s)
		l := []int{35, 54, 2, 11}
		want := storeResults(before, l)
		first, told, _ := impl.StoreRun(s, l)
		wantFirst, wantTold := cloneStore(first), slices.Clone(told)
		for _, got := range storeResults(s, l) {
			scribble(got.Vals, 88)
		}
		scribble(first.Vals, 88)
		if !slices.Equal(told, wantTold) {
			t.Fatal(s, told)
		}
		scribble(told, 88)
		for name, got := range storeResults(s, l) {
			if !sameStore(got, want[name]) {
				t.Fatal(name, got, want[name])
			}
		}
		second, results, _ := impl.StoreRun(s, l)
		if !sameStore(second, wantFirst) || !slices.Equal(results, wantTold) || !sameStore(s, before) || !slices.Equal(l, []int{35, 54, 2, 11}) {
			t.Fatal(s, second, results, l)
		}
	}
	fresh := impl.StoreNew()
	scribble(fresh.Vals, 88)
	if again := impl.StoreNew(); !sameStore(again, store(0, 0, 0, 0, 0)) {
		t.Error(again)
	}
}

func TestTextsOfStoresShareNoMemory(t *testing.T) {
	for k, call := range []func() []byte{
		func() []byte { return impl.CmdText(get(3)) },
		func() []byte { return impl.CmdText(put(2, 4)) },
		func() []byte { return impl.StoreText(store(12, 7, 42, 999, 1000)) },
	} {
		first := call()
		want := slices.Clone(first)
		second := call()
		scribble(first, 88)
		if third := call(); len(want) == 0 || !slices.Equal(second, want) || !slices.Equal(third, want) {
			t.Error(k, string(want), string(second), string(third))
		}
	}
}
