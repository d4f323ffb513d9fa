package files_test

import (
	"math/rand/v2"
	"testing"

	"bastion/api"
	"bastion/files"
)

// eachTree hands on pairs of trees that are drawn, small ones and great ones.
func eachTree(do func(r *rand.Rand, a, b []api.File)) {
	r := rand.New(rand.NewPCG(17, 3))
	for range 2000 {
		do(r, drawnTree(r, 8, 4), drawnTree(r, 8, 4))
	}
	for range 60 {
		do(r, drawnTree(r, 90, 400), drawnTree(r, 90, 400))
	}
}

// P17.3.
func TestTreesStay(t *testing.T) {
	laid := 0
	eachTree(func(r *rand.Rand, a, b []api.File) {
		path := drawnPath(r)
		if l, e := files.Put(a, path, "new"); e == api.OK {
			checkCheck(t, l, api.OK)
		}
		for _, f := range a {
			l, _ := files.Del(a, f.Path)
			checkCheck(t, l, api.OK)
		}
		checkCheck(t, files.Pick(a, []string{"a*", "**b", path}), api.OK)
		if l, e := files.Lay(a, b); e == api.OK {
			checkCheck(t, l, api.OK)
			laid++
		}
	})
	if laid < 1000 {
		t.Errorf("only %d of the trees drawn can be laid over one another", laid)
	}
}

// checkRest tells where a list has another thing than a tree at any path but one.
func checkRest(t *testing.T, l, was []api.File, path string) {
	t.Helper()
	for _, list := range [][]api.File{l, was} {
		for _, f := range list {
			if f.Path == path {
				continue
			}
			want, wantIs := files.Get(was, f.Path)
			checkGet(t, l, f.Path, want, wantIs)
		}
	}
}

// P17.4.
func TestAsMap(t *testing.T) {
	news, others := 0, 0
	eachTree(func(r *rand.Rand, a, _ []api.File) {
		path := drawnPath(r)
		was, is := files.Get(a, path)
		l, e := files.Put(a, path, "new")
		if e != api.OK {
			return
		}
		checkGet(t, l, path, "new", true)
		checkRest(t, l, a, path)
		gone, e := files.Del(l, path)
		checkGet(t, gone, path, "", false)
		checkRest(t, gone, a, path)
		if is {
			others++
			checkPut(t, l, path, was, a, api.OK)
			checkPut(t, gone, path, was, a, api.OK)
		} else {
			news++
			checkTree(t, "put and gone", gone, e, a, api.OK)
		}
	})
	if news < 100 || others < 100 {
		t.Errorf("of the files drawn %d are new and %d are not", news, others)
	}
}

// P17.5.
func TestLaid(t *testing.T) {
	eachTree(func(_ *rand.Rand, a, b []api.File) {
		checkLay(t, a, nil, a, api.OK)
		checkLay(t, nil, a, a, api.OK)
		checkLay(t, a, a, a, api.OK)
		if l, e := files.Lay(a, b); e == api.OK {
			checkLay(t, l, b, l, api.OK)
			checkLay(t, a, l, l, api.OK)
			for _, f := range b {
				checkGet(t, l, f.Path, f.Data, true)
			}
		}
	})
}

// P17.2: trees drawn at random, with many paths.
func TestTreesDrawn(t *testing.T) {
	eachTree(func(r *rand.Rand, a, b []api.File) {
		checkTwo(t, a, b)
		checkOne(t, a, drawnPath(r), drawnData(r, 5))
		for _, f := range b[:min(len(b), 3)] {
			checkOne(t, a, f.Path, f.Data)
		}
	})
}
