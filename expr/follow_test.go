package expr_test

import (
	"math/rand/v2"
	"slices"
	"testing"

	"bastion/api"
	"bastion/expr"
)

// holds is what Value says of a condition.
func holds(t *testing.T, row []string) bool {
	t.Helper()
	is, e := expr.Value(row)
	if e != api.OK {
		t.Errorf("Value(%.90q): %d", row, int(e))
	}
	return is
}

// checkSame tells where two conditions are not the same.
func checkSame(t *testing.T, one, other []string) {
	t.Helper()
	if a, b := holds(t, one), holds(t, other); a != b {
		t.Errorf("%q: %v; %q: %v", one, a, other, b)
	}
}

// checkLogic tells where the laws of logic do not hold of three conditions.
func checkLogic(t *testing.T, x, y, z []string) {
	t.Helper()
	inX, inY, inZ := bracketed(x), bracketed(y), bracketed(z)
	checkSame(t, joined("not", bracketed(joined(inX, "or", inY))), joined("not", inX, "and", "not", inY))
	checkSame(t, joined("not", bracketed(joined(inX, "and", inY))), joined("not", inX, "or", "not", inY))
	checkSame(t, joined(inX, "and", bracketed(joined(inY, "or", inZ))), joined(inX, "and", inY, "or", inX, "and", inZ))
	checkSame(t, joined(inX, "or", inX), x)
	checkSame(t, joined(inX, "and", inX), x)
	checkSame(t, joined("not", "not", inX), x)
	checkSame(t, joined(inX, "or", inY, "and", inZ), joined(inX, "or", bracketed(joined(inY, "and", inZ))))
	checkSame(t, joined(inX, "and", inY, "or", inZ), joined(bracketed(joined(inX, "and", inY)), "or", inZ))

	isX, isY, isZ := holds(t, x), holds(t, y), holds(t, z)
	if got := holds(t, joined(inX, "or", inY, "and", inZ)); got != (isX || isY && isZ) {
		t.Errorf("%q or %q and %q: %v", x, y, z, got)
	}
	if got := holds(t, joined("not", inX, "and", inY, "or", inZ)); got != (!isX && isY || isZ) {
		t.Errorf("not %q and %q or %q: %v", x, y, z, got)
	}
}

// P11.3: as logic has it, of all that there is of yes and no.
func TestLogic(t *testing.T) {
	yes, no := []string{"a", "==", "a"}, []string{"a", "==", "b"}
	both := [][]string{yes, no}
	for _, x := range both {
		for _, y := range both {
			for _, z := range both {
				checkLogic(t, x, y, z)
				checkSame(t, joined(x, "or", y, "and", z), joined(x, "or", bracketed(joined(y, "and", z))))
				checkSame(t, joined(x, "and", y, "or", z), joined(bracketed(joined(x, "and", y)), "or", z))
			}
		}
	}
}

// P11.3: of conditions drawn at random.
func TestLogicDrawn(t *testing.T) {
	r := rand.New(rand.NewPCG(11, 2))
	for range 3000 {
		checkLogic(t, drawn(r, r.IntN(4)), drawn(r, r.IntN(4)), drawn(r, r.IntN(4)))
	}
}

// P11.4: brackets change nothing, but that it is deeper.
func TestBrackets(t *testing.T) {
	r := rand.New(rand.NewPCG(11, 3))
	for range 3000 {
		row := drawn(r, r.IntN(5))
		want := tell(row)
		inner := row
		for range 3 {
			inner = bracketed(inner)
			check(t, inner, want)
		}
		check(t, joined("not", inner), told{holds: !want.holds, texts: want.texts})
	}
	row := []string{"a", "==", "a"}
	for range 64 {
		row = bracketed(row)
		check(t, row, told{holds: true, texts: []string{"a", "a"}})
	}
	check(t, bracketed(row), told{e: api.ErrDeep})
	check(t, joined("not", row), told{e: api.ErrDeep})
}

// P11.4: of one that begins with an operator they make a comparison of the bracket.
func TestBracketsOfOperator(t *testing.T) {
	row := []string{"==", "==", "=="}
	check(t, row, told{holds: true, texts: []string{"==", "=="}})
	check(t, bracketed(row), told{e: api.ErrForm})
	check(t, []string{"(", "~", "(", "and", "a", "==", "a"}, told{holds: true, texts: []string{"(", "(", "a", "a"}})
	if !slices.Equal(bracketed(row), []string{"(", "==", "==", "==", ")"}) {
		t.Error("the row in brackets is another one")
	}
}
