package node_test

import (
	"slices"
	"strings"
	"testing"

	"bastion/node"
)

// P6.4: each leaf of two keys fits, whatever their lengths, and those of the values.
func TestTwoKeysFit(t *testing.T) {
	sizes := []int{0, 1, 31, 32, 63, 64}
	for _, first := range sizes {
		for _, second := range sizes {
			for key := 1; key <= 32; key++ {
				n := leaf(long(0, key), strings.Repeat("v", first), long(1, 33-key), strings.Repeat("\x00", second))
				if !node.Fits(n) {
					t.Errorf("%s does not fit", shown(n))
				}
				checkNode(t, n)
			}
		}
	}
	checkRoom(t, leafOf(2, 32, 64))
}

// P6.4: each other node of six keys fits, whatever their lengths, and the kids.
func TestSixKeysFit(t *testing.T) {
	for _, kid := range []int{0, 127, 128, 16383, 16384, 32768} {
		for key := 1; key <= 32; key++ {
			for keys := range 7 {
				n := innerOf(keys, key, kid)
				if !node.Fits(n) {
					t.Errorf("%s does not fit", shown(n))
				}
				checkNode(t, n)
			}
		}
	}
	checkRoom(t, innerOf(6, 32, 32768))
}

// P6.4: what fits still does, if it loses a key, and all that go behind it.
func TestLosingKeys(t *testing.T) {
	for name, n := range good() {
		if node.Fits(n) {
			t.Run(name, func(t *testing.T) { checkRoom(t, n) })
		}
	}
}

// checkRoom tells where a node that fits does not any more, if it loses a key with its value, or with the kid behind it.
func checkRoom(t *testing.T, n node.Node) {
	t.Helper()
	if !node.Fits(n) {
		t.Errorf("%s does not fit", shown(n))
	}
	for i := range n.Keys {
		less := cloned(n)
		less.Keys = slices.Delete(less.Keys, i, i+1)
		if n.Leaf {
			less.Values = slices.Delete(less.Values, i, i+1)
		} else {
			less.Kids = slices.Delete(less.Kids, i+1, i+2)
		}
		if !node.Fits(less) || node.Size(less) >= node.Size(n) {
			t.Errorf("%s without the key %d: %d bytes, %v; with it %d", shown(n), i, node.Size(less), node.Fits(less), node.Size(n))
		}
	}
}
