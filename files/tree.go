package files

import (
	"cmp"
	"slices"
	"sort"
	"strings"

	"bastion/api"
)

// checkFile tells why a file may not be in any tree, if it may not.
func checkFile(f api.File) api.Errno {
	if !Path(f.Path) {
		return api.ErrName
	}
	if len(f.Data) > api.MaxData {
		return api.ErrTooLarge
	}
	return api.OK
}

// rises tells whether each file's path is greater than the one ahead of it.
func rises(l []api.File) bool {
	for i := 1; i < len(l); i++ {
		if l[i-1].Path >= l[i].Path {
			return false
		}
	}
	return true
}

func isTooMuch(l []api.File) bool {
	return len(l) > api.MaxFiles || Size(l) > api.MaxTree
}

// find is where in a list that rises the file at a path stands, or would stand, and whether it does.
func find(l []api.File, path string) (int, bool) {
	at := sort.Search(len(l), func(i int) bool { return l[i].Path >= path })
	return at, at < len(l) && l[at].Path == path
}

// isUnder tells whether a path stands under that of a file of a list that rises.
func isUnder(l []api.File, path string) bool {
	for _, upTo := range parts(path) {
		if _, is := find(l, upTo); is && upTo != path {
			return true
		}
	}
	return false
}

// isFolder tells whether the path of a file of a list that rises stands under a path.
func isFolder(l []api.File, path string) bool {
	folder := path + "/"
	at, _ := find(l, folder)
	return at < len(l) && strings.HasPrefix(l[at].Path, folder)
}

// isInWay tells whether a file of a tree is in the way of one at a path.
func isInWay(l []api.File, path string) bool {
	_, is := find(l, path)
	return is || isUnder(l, path) || isFolder(l, path)
}

// laid is the tree b laid over the tree a.
func laid(a, b []api.File) ([]api.File, api.Errno) {
	var kept []api.File
	for _, f := range a {
		if !isInWay(b, f.Path) {
			kept = append(kept, f)
		}
	}
	l := slices.Concat(b, kept)
	if isTooMuch(l) {
		return nil, api.ErrFull
	}
	slices.SortFunc(l, func(f, g api.File) int { return cmp.Compare(f.Path, g.Path) })
	return l, api.OK
}
