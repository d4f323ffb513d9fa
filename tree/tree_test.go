package tree_test

import (
	"fmt"
	"math"
	"slices"
	"strings"
	"testing"

	"bastion/api"
	"bastion/tree"
)

// The chapter's examples.
func TestExamples(t *testing.T) {
	x := newTree(t, 40)
	checkPut(t, x, "b", "1", api.OK)
	checkPut(t, x, "a", "2", api.OK)
	checkGet(t, x, "a", "2", true)
	checkRange(t, x, "a", "b", []tree.Pair{{Key: "a", Value: "2"}})
	if dirty := x.Dirty(); x.Root() != 0 || !slices.Equal(x.Used(), []int{0}) || len(dirty) != 1 || dirty[0].No != 0 {
		t.Errorf("Root %d, Used %v, Dirty %v", x.Root(), x.Used(), dirty)
	}
	if dirty := x.Dirty(); !strings.HasPrefix(string(dirty[0].Data), "\x01\x02\x01a\x012\x01b\x011\x00") {
		t.Errorf("page 0: % x", dirty[0].Data)
	}
	checkDel(t, x, "c", api.ErrNone)
	checkDel(t, x, "a", api.OK)
	checkDel(t, x, "b", api.OK)
	if x.Root() != -1 || x.Free() != 40 || len(x.Dirty()) != 0 {
		t.Errorf("Root %d, Free %d, Dirty %v", x.Root(), x.Free(), x.Dirty())
	}
	checkPut(t, newTree(t, 15), "a", "1", api.ErrFull)
	checkPut(t, x, "", "1", api.ErrArg)
	checkPut(t, x, strings.Repeat("k", 33), "1", api.ErrArg)
}

// P7.1: a new tree has nothing, on as many pages as are asked for.
func TestNew(t *testing.T) {
	for _, n := range []int{0, 1, 15, 16, 17, 40, 1000, api.MaxBlocks} {
		x := newTree(t, n)
		checkPairs(t, x, told{})
		checkPages(t, x, n)
		checkGet(t, x, "a", "", false)
		checkDel(t, x, "a", api.ErrNone)
		if x.Free() != n || x.Root() != -1 || len(x.Used()) != 0 || len(x.Dirty()) != 0 {
			t.Errorf("New(%d): Free %d, Root %d, Used %v, Dirty %v", n, x.Free(), x.Root(), x.Used(), x.Dirty())
		}
		want := api.OK
		if n < tree.Spare {
			want = api.ErrFull
		}
		checkPut(t, x, "a", "1", want)
	}
	for _, n := range []int{-1, math.MinInt, api.MaxBlocks + 1, math.MaxInt, 1 << 32} {
		if x, e := tree.New(n); x != nil || e != api.ErrArg {
			t.Errorf("New(%d): %v, %d", n, x != nil, int(e))
		}
	}
}

// P7.1: keys and values of each length that there may be, and of the next one.
func TestLengths(t *testing.T) {
	for _, size := range []int{1, 2, 31, 32} {
		x := newTree(t, 100)
		for _, c := range []byte{0, 'a', 0xff} {
			key := strings.Repeat(string([]byte{c}), size)
			for _, value := range []string{"", "\x00", "v", strings.Repeat("\xff", 63), strings.Repeat("v", 64)} {
				checkPut(t, x, key, value, api.OK)
				checkGet(t, x, key, value, true)
			}
			checkPut(t, x, key, strings.Repeat("v", 65), api.ErrArg)
			checkGet(t, x, key, strings.Repeat("v", 64), true)
		}
	}
}

// P7.1: a pair in the place of one of its key; Del of what is there, and once more.
func TestReplaced(t *testing.T) {
	x := newTree(t, 40)
	pairs := told{"a": "1", "b": "", "c": "3"}
	for key, value := range pairs {
		checkPut(t, x, key, value, api.OK)
	}
	checkPairs(t, x, pairs)
	checkPut(t, x, "b", "2", api.OK)
	checkPut(t, x, "c", "", api.OK)
	checkPairs(t, x, told{"a": "1", "b": "2", "c": ""})
	checkDel(t, x, "b", api.OK)
	checkDel(t, x, "b", api.ErrNone)
	checkPairs(t, x, told{"a": "1", "c": ""})
}

// P7.1: what is below the empty key, above all keys, and between any two ends.
func TestRange(t *testing.T) {
	x := newTree(t, 200)
	pairs := told{}
	for i := range 150 {
		key := fmt.Sprintf("%03d", 2*i)
		pairs[key] = strings.Repeat("v", i%65)
		checkPut(t, x, key, pairs[key], api.OK)
	}
	ends := []string{"", "\x00", "0", "00", "000", "0000", "001", "002", "149", "150", "1500", "151", "2", "297", "298", "298\x00", "299", "3", "\xff", strings.Repeat("\xff", 99)}
	for _, from := range ends {
		for _, to := range ends {
			checkRange(t, x, from, to, pairs.list(from, to))
		}
	}
	for i := range 300 {
		from, to := fmt.Sprintf("%03d", i), fmt.Sprintf("%03d", i+7)
		checkRange(t, x, from, to, pairs.list(from, to))
	}
}

// The table of errors: Put, each of two errors ahead of the next.
func TestPutErrors(t *testing.T) {
	long, wide := strings.Repeat("k", 33), strings.Repeat("v", 65)
	full, free := newTree(t, 15), newTree(t, 16)
	for _, c := range []struct {
		x          *tree.Tree
		key, value string
		want       api.Errno
	}{
		{nil, "", wide, api.ErrNil},
		{nil, "a", "1", api.ErrNil},
		{full, "", "1", api.ErrArg},
		{full, long, "1", api.ErrArg},
		{full, "a", wide, api.ErrArg},
		{full, "a", "1", api.ErrFull},
		{free, "", "", api.ErrArg},
		{free, long, "", api.ErrArg},
		{free, strings.Repeat("k", 5000), "", api.ErrArg},
		{free, "a", wide, api.ErrArg},
		{free, "a", strings.Repeat("v", 5000), api.ErrArg},
	} {
		checkPut(t, c.x, c.key, c.value, c.want)
	}
	checkPairs(t, full, told{})
	checkPairs(t, free, told{})
	checkPut(t, free, "a", "1", api.OK)
	checkPut(t, free, "", "1", api.ErrArg)
	checkPut(t, free, "a", "2", api.ErrFull) // of a pair that would have room in its page, too
	checkPut(t, free, "a", "1", api.ErrFull)
	checkPairs(t, free, told{"a": "1"})
	if len(free.Dirty()) != 1 || free.Free() != 15 {
		t.Errorf("%d dirty, %d free", len(free.Dirty()), free.Free())
	}
}

// The table of errors: Del of keys that are none, of those that could be no pair's, too.
func TestDelErrors(t *testing.T) {
	x := newTree(t, 40)
	checkPut(t, x, "k", "1", api.OK)
	x.Clean()
	for _, key := range []string{"", "j", "k\x00", "kk", "l", strings.Repeat("k", 33), strings.Repeat("\xff", 5000)} {
		checkDel(t, x, key, api.ErrNone)
		checkGet(t, x, key, "", false)
		checkDel(t, nil, key, api.ErrNil)
	}
	checkPairs(t, x, told{"k": "1"})
	if len(x.Dirty()) != 0 {
		t.Error("a Del of no pair changed something")
	}
}

// checkNone tells where a tree that is none answers something.
func checkNone(t *testing.T, x *tree.Tree) {
	t.Helper()
	checkGet(t, x, "a", "", false)
	checkGet(t, x, "", "", false)
	checkRange(t, x, "", "", nil)
	checkPut(t, x, "a", "1", api.ErrNil)
	checkDel(t, x, "a", api.ErrNil)
	if x.Len() != 0 || x.Root() != -1 || x.Free() != 0 || len(x.Used()) != 0 || len(x.Dirty()) != 0 {
		t.Errorf("Len %d, Root %d, Free %d, Used %v, Dirty %v", x.Len(), x.Root(), x.Free(), x.Used(), x.Dirty())
	}
	if c, b := x.Clean(), x.Back(); c != api.ErrNil || b != api.ErrNil {
		t.Errorf("Clean %d, Back %d", int(c), int(b))
	}
}

// P7.1 and P7.2 of a nil tree.
func TestNil(t *testing.T) { checkNone(t, nil) }

// R1: trees that were made otherwise do not panic: one of nothing, and one that was copied while it changed.
func TestMadeOtherwise(t *testing.T) {
	checkNone(t, new(tree.Tree))
	x := newTree(t, 500)
	y := *x
	for i := range 100 {
		key := fmt.Sprint("key ", i)
		x.Put(key, strings.Repeat("v", 60))
		if i%3 == 0 {
			y = *x
		}
		y.Get(key)
		y.Del(fmt.Sprint("key ", i/2))
		x.Put(key, "")
		y.Range("", "")
		y.Dirty()
	}
	y.Back()
	x.Del("key 9")
	y.Clean()
}

// R3: what is handed out is new memory.
func TestAnswersAreApart(t *testing.T) {
	x := newTree(t, 200)
	pairs := told{}
	for i := range 50 {
		key := fmt.Sprint("key ", i)
		pairs[key] = "value"
		checkPut(t, x, key, "value", api.OK)
	}
	want := disk{image: make([][]byte, 200)}.written(t, x)
	for range 2 {
		dirty, used, l := x.Dirty(), x.Used(), x.Range("", "")
		for _, p := range dirty {
			spoil(p.Data, 0x55)
		}
		spoil(dirty, tree.Page{})
		spoil(used, -7)
		spoil(l, tree.Pair{})
	}
	again := disk{image: make([][]byte, 200)}.written(t, x)
	want.checkLaid(t, x, pairs)
	again.checkLaid(t, x, pairs)
	checkPairs(t, x, pairs)
}

// spoil writes to all of a list, and to its spare room.
func spoil[T any](l []T, with T) {
	l = l[:cap(l)]
	for i := range l {
		l[i] = with
	}
}
