package expr_test

import (
	"slices"
	"strings"
	"testing"

	"bastion/api"
	"bastion/expr"
)

// P11.1, P11.2, R1: of nil, and of what no call made.
func TestNil(t *testing.T) {
	for _, x := range []*expr.Expr{nil, {}, new(expr.Expr)} {
		holds, words, texts := x.Eval(), x.Words(), x.Texts()
		if x == nil && (holds || len(words) > 0 || len(texts) > 0) {
			t.Errorf("of nil: %v, %q, %q", holds, words, texts)
		}
	}
}

// R3: what is handed in is not kept, nor read behind its end.
func TestHandedIn(t *testing.T) {
	all := strings.Fields("a == a or b ~ c and d == d")
	x, e := expr.Parse(all[:7])
	if e != api.OK {
		t.Fatalf("Parse: %d", int(e))
	}
	if _, e := expr.Parse(all[:6]); e != api.ErrForm {
		t.Errorf("a word behind the end is read: %d", int(e))
	}
	if _, e := expr.Parse(all[:2]); e != api.ErrForm {
		t.Errorf("a word behind the end is read: %d", int(e))
	}
	for i := range all {
		all[i] = "written"
	}
	if !x.Eval() || strings.Join(x.Words(), " ") != "a == a or b ~ c" || strings.Join(x.Texts(), " ") != "a a b c" {
		t.Errorf("what was handed in is kept: %v, %q, %q", x.Eval(), x.Words(), x.Texts())
	}
}

// R3: what is handed out is new memory, with its spare room.
func TestHandedOut(t *testing.T) {
	row := strings.Fields("a == b or not ( c ~ d )")
	x, e := expr.Parse(row)
	if e != api.OK {
		t.Fatalf("Parse: %d", int(e))
	}
	write := func(l []string) {
		l = l[:cap(l)]
		for i := range l {
			l[i] = "written"
		}
	}
	for range 3 {
		words, texts := x.Words(), x.Texts()
		write(words)
		if !slices.Equal(texts, []string{"a", "b", "c", "d"}) {
			t.Errorf("Texts shows what was written: %q", texts)
		}
		write(texts)
		if !slices.Equal(x.Words(), row) || strings.Join(row, " ") != "a == b or not ( c ~ d )" {
			t.Errorf("Words shows what was written: %q, %q", x.Words(), row)
		}
		if got := x.Texts(); !slices.Equal(got, []string{"a", "b", "c", "d"}) || !x.Eval() {
			t.Errorf("it is another condition: %q, %v", got, x.Eval())
		}
	}
}

// R2: conditions do not see one another, and answer the same whenever they are asked.
func TestApart(t *testing.T) {
	one, e := expr.Parse(strings.Fields("a == a"))
	if e != api.OK {
		t.Fatalf("Parse: %d", int(e))
	}
	other, e := expr.Parse(strings.Fields("not a == a or b == c"))
	if e != api.OK {
		t.Fatalf("Parse: %d", int(e))
	}
	if none, e := expr.Parse(strings.Fields("a == a or")); none != nil || e != api.ErrForm {
		t.Errorf("Parse: %v, %d", none, int(e))
	}
	for range 3 {
		if !one.Eval() || other.Eval() {
			t.Errorf("Eval: %v, %v", one.Eval(), other.Eval())
		}
		if len(one.Words()) != 3 || len(other.Words()) != 8 || len(one.Texts()) != 2 || len(other.Texts()) != 4 {
			t.Errorf("%q, %q, %q, %q", one.Words(), other.Words(), one.Texts(), other.Texts())
		}
	}
}
