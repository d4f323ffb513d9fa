package plan_test

import (
	"encoding/hex"
	"math/rand/v2"
	"slices"
	"strings"
	"testing"

	"bastion/api"
	"bastion/plan"
)

// P16.2: a plan's bytes, one by one.
func TestBytes(t *testing.T) {
	for text, p := range map[string]api.Plan{
		"00":                              {},
		"01 0161 00 00 00 00 00 01 00 00": {Jobs: []api.Job{{Name: "a", Tries: 1}}},
		"02 0161 00 00 00 00 00 01 00 01 0162 01 00 00 00 00 00 05 e807 00": {Jobs: []api.Job{{Name: "a", Tries: 1, Manual: true}, {Name: "b", Needs: []int{0}, Tries: 5, Limit: 1000}}},
		"01 02613a 00 02 0178 0179 02 0176 0131 0177 00 03 057361792078 00 01ff 01 032a2a2f 02 7f 00": {Jobs: []api.Job{{
			Name: "a:", Tags: []string{"x", "y"}, Vars: variables("v", "1", "w", ""), Steps: []string{"say x", "", "\xff"}, Keep: []string{"**/"}, Tries: 2, Limit: 127,
		}}},
		"01 8001" + strings.Repeat("6e", 128) + " 00 00 00 00 00 03 8001 00": {Jobs: []api.Job{{Name: strings.Repeat("n", 128), Tries: 3, Limit: 128}}},
	} {
		want, err := hex.DecodeString(strings.ReplaceAll(text, " ", ""))
		if err != nil {
			t.Fatal(err)
		}
		if b, e := plan.Encode(p); !slices.Equal(b, want) || e != api.OK {
			t.Errorf("Encode(%s): %x, %d; want %x, 0", short(p), b, int(e), want)
		}
		if back, e := plan.Decode(want); !samePlans(back, p) || e != api.OK {
			t.Errorf("Decode(%x): %s, %d; want %s, 0", want, short(back), int(e), short(p))
		}
		checkPlan(t, p)
	}
}

// goodPlan is a plan that may be: three jobs, the last one with one and two of everything.
func goodPlan() api.Plan {
	return api.Plan{Jobs: []api.Job{
		{Name: "a", Tries: 1},
		{Name: "b", Tries: 1, Needs: []int{0}},
		{Name: "c", Needs: []int{0, 1}, Tags: []string{"m", "n"}, Vars: variables("v", "1", "w", "2"), Steps: []string{"x", "y"}, Keep: []string{"k", "l"}, Tries: 2, Limit: 3, Manual: true},
	}}
}

// with3 is the good plan with another last job.
func with3(change func(j *api.Job)) api.Plan {
	p := goodPlan()
	change(&p.Jobs[2])
	return p
}

// many is a text so many times.
func many(n int, s string) []string { return slices.Repeat([]string{s}, n) }

// Check, Encode, Decode: what may be, by each rule, and what is one past it.
func TestMayBe(t *testing.T) {
	may := func(change func(j *api.Job)) {
		t.Helper()
		p := with3(change)
		checkPlan(t, p)
		if !mayBe(p) {
			t.Errorf("the second telling says no: %s", short(p))
		}
	}
	mayNot := func(change func(j *api.Job)) {
		t.Helper()
		p := with3(change)
		checkPlan(t, p)
		if mayBe(p) {
			t.Errorf("the second telling says yes: %s", short(p))
		}
	}
	may(func(j *api.Job) {})
	for _, name := range []string{"x", "A\x00\xff ", strings.Repeat("n", 400), "a:", "a "} {
		may(func(j *api.Job) { j.Name = name })
	}
	for _, name := range []string{"", strings.Repeat("n", 401), "a", "b"} {
		mayNot(func(j *api.Job) { j.Name = name })
	}
	for _, needs := range [][]int{nil, {0}, {1}, {0, 1}} {
		may(func(j *api.Job) { j.Needs = needs })
	}
	for _, needs := range [][]int{{2}, {3}, {-1}, {0, 2}, {-1, 0}, {0, 0}, {1, 1}, {1, 0}, {0, 1, 1}, {0, 1, 2}, {1 << 31}, {1<<31 - 1}, {-1 << 63}, {1<<63 - 1}, {0, 1, 0}} {
		mayNot(func(j *api.Job) { j.Needs = needs })
	}
	for _, tags := range [][]string{nil, {"a"}, {strings.Repeat("n", 24)}, {"a", "a-", "a0", "a_", "aa", "b"}} {
		may(func(j *api.Job) { j.Tags = tags })
	}
	for _, tags := range [][]string{{""}, {"A"}, {"a b"}, {"1"}, {"a", "a"}, {"b", "a"}, {"a", "c", "b"}, {strings.Repeat("n", 25)}, {"a", "\xff"}, {"", "a"}} {
		mayNot(func(j *api.Job) { j.Tags = tags })
	}
	for _, vars := range [][]api.Var{nil, variables("z", "", "a", "\x00\xff"), variables(strings.Repeat("n", 24), strings.Repeat("x", 400))} {
		may(func(j *api.Job) { j.Vars = vars })
	}
	for _, vars := range [][]api.Var{variables("", "1"), variables("A", "1"), variables("a", "1", "a", "1"), variables("a", "1", "b", "1", "a", "2"), variables("a", strings.Repeat("x", 401)), variables(strings.Repeat("n", 25), "")} {
		mayNot(func(j *api.Job) { j.Vars = vars })
	}
	for _, steps := range [][]string{nil, {""}, {"\x00\n\xff"}, many(40, "x"), {strings.Repeat("x", 400)}} {
		may(func(j *api.Job) { j.Steps = steps })
	}
	for _, steps := range [][]string{many(41, "x"), many(41, ""), {strings.Repeat("x", 401)}, {"", strings.Repeat("x", 401)}} {
		mayNot(func(j *api.Job) { j.Steps = steps })
	}
	for _, keep := range [][]string{nil, {"z", "a", "z"}, many(40, "x"), {strings.Repeat("*", 64)}, {"!~$"}} {
		may(func(j *api.Job) { j.Keep = keep })
	}
	for _, keep := range [][]string{{""}, {"a b"}, {"\x7f"}, {"\x20"}, many(41, "x"), {strings.Repeat("*", 65)}, {"a", "\n"}, {"\xff"}} {
		mayNot(func(j *api.Job) { j.Keep = keep })
	}
	for n := -2; n <= 8; n++ {
		checkPlan(t, with3(func(j *api.Job) { j.Tries = n }))
	}
	for _, n := range []int{-1 << 63, -1, 0, 1, 127, 128, 999, 1000, 1001, 1 << 31, 1<<63 - 1} {
		checkPlan(t, with3(func(j *api.Job) { j.Limit = n }))
		checkPlan(t, with3(func(j *api.Job) { j.Tries = n }))
	}
	may(func(j *api.Job) { j.Tries, j.Limit = 5, 1000 })
	may(func(j *api.Job) { j.Tries, j.Limit = 1, 0 })
	mayNot(func(j *api.Job) { j.Tries = 0 })
	mayNot(func(j *api.Job) { j.Tries = 6 })
	mayNot(func(j *api.Job) { j.Limit = 1001 })
	mayNot(func(j *api.Job) { j.Limit = -1 })
	mayNot(func(j *api.Job) { *j = api.Job{} })
}

// What holds of a job holds of each one.
func TestEachJob(t *testing.T) {
	for i := range 3 {
		for _, change := range []func(j *api.Job){
			func(j *api.Job) { j.Name = "" },
			func(j *api.Job) { j.Needs = []int{i} },
			func(j *api.Job) { j.Tags = []string{"A"} },
			func(j *api.Job) { j.Vars = variables("A", "") },
			func(j *api.Job) { j.Keep = []string{""} },
			func(j *api.Job) { j.Tries = 0 },
			func(j *api.Job) { j.Limit = 1001 },
		} {
			p := goodPlan()
			change(&p.Jobs[i])
			checkNone(t, p)
		}
	}
	// Of two jobs names are held against each other, wherever they stand; all else is not.
	for i := range 24 {
		for k := range i {
			var p api.Plan
			for n := range 24 {
				p.Jobs = append(p.Jobs, api.Job{Name: strings.Repeat("x", n+1), Tries: 1, Tags: []string{"t"}, Vars: variables("v", "1")})
			}
			checkPlan(t, p)
			p.Jobs[i].Name = p.Jobs[k].Name
			checkNone(t, p)
		}
	}
}

// As many jobs as there may be, and one more.
func TestJobs(t *testing.T) {
	var p api.Plan
	for n := range 26 {
		checkPlan(t, p)
		if mayBe(p) != (n <= 24) {
			t.Errorf("%d jobs: the second telling says %v", n, mayBe(p))
		}
		j := api.Job{Name: strings.Repeat("x", n+1), Tries: 1}
		for k := range n {
			j.Needs = append(j.Needs, k)
		}
		p.Jobs = append(p.Jobs, j)
	}
}

// As many bytes as there may be, and one more.
func TestMaxBytes(t *testing.T) {
	if plan.MaxBytes != 32768 {
		t.Errorf("MaxBytes: %d", plan.MaxBytes)
	}
	for _, kind := range []func(j *api.Job, text string){
		func(j *api.Job, text string) { j.Vars = append(j.Vars, api.Var{Name: "last", Value: text}) },
		func(j *api.Job, text string) { j.Steps = append(j.Steps, text) },
		func(j *api.Job, text string) { j.Name = text },
	} {
		edges := 0
		for n := 200; n <= 400; n++ {
			p := api.Plan{Jobs: []api.Job{{Name: "a", Vars: bigVars(80, 400), Tries: 1}}}
			kind(&p.Jobs[0], strings.Repeat("x", n))
			size := len(bytesTold(p))
			if size == 32768 || size == 32769 {
				edges++
			}
			checkPlan(t, p)
			if mayBe(p) != (size <= 32768) {
				t.Errorf("%d bytes: the second telling says %v", size, mayBe(p))
			}
		}
		if edges != 2 {
			t.Errorf("%d of the two plans at the edge were tried", edges)
		}
	}
	// Long lists, and long texts in them.
	checkNone(t, with3(func(j *api.Job) { j.Tags = many(100000, "a") }))
	checkNone(t, with3(func(j *api.Job) { j.Vars = bigVars(20000, 1) }))
	checkNone(t, with3(func(j *api.Job) { j.Steps = []string{strings.Repeat("x", 1<<20)} }))
	checkNone(t, with3(func(j *api.Job) { j.Needs = make([]int, 100000) }))
	checkNone(t, api.Plan{Jobs: make([]api.Job, 100000)})
}

// Decode: bytes that are cut, or have more behind them.
func TestCut(t *testing.T) {
	b := bytesTold(goodPlan())
	for n := range b {
		checkNoBytes(t, b[:n])
	}
	for c := range 256 {
		checkNoBytes(t, append(slices.Clone(b), byte(c)))
		checkNoBytes(t, []byte{0, byte(c)})
	}
	checkNoBytes(t, nil)
	checkNoBytes(t, slices.Concat(b, b))
	checkNoBytes(t, make([]byte, 100000))
}

// Decode: a count with a group too many, a count of more than there is, a truth value that is none.
func TestWrongBytes(t *testing.T) {
	for _, text := range []string{
		"8000", "01", "ffffffff07", "8080808008", "ffffffffffffffffff01", "18", "8180 00",
		"8100 0161 00 00 00 00 00 01 00 00", "01 8100 61 00 00 00 00 00 01 00 00", "01 0161 8000 00 00 00 00 01 00 00", "01 0161 00 00 00 00 00 8100 00 00", "01 0161 00 00 00 00 00 01 8000 00",
		"01 0161 00 00 00 00 00 01 00 02", "01 0161 00 00 00 00 00 01 00 8000", "01 0161 00 00 00 00 00 01 00 ff", "01 0161 00 00 00 00 00 01 00",
		"01 0161 ffffffff07 00 00 00 00 01 00 00", "01 0161 00 ffffffff07 00 00 00 01 00 00", "01 0161 00 00 ffffffff07 00 00 01 00 00", "01 0161 00 00 00 ffffffff07 00 01 00 00", "01 0161 00 00 00 00 ffffffff07 01 00 00",
		"01 ffffffff07 61 00 00 00 00 00 01 00 00", "01 0161 00 00 00 00 00 ffffffff07 00 00", "01 0161 00 00 00 00 00 01 ffffffff07 00", "01 0161 00 00 00 00 00 01 ffffffff0f 00",
		"02 0161 00 00 00 00 00 01 00 00", "00 0161 00 00 00 00 00 01 00 00",
	} {
		b, err := hex.DecodeString(strings.ReplaceAll(text, " ", ""))
		if err != nil {
			t.Fatal(err)
		}
		checkNoBytes(t, b)
	}
}

// P16.4: Encode of Decode is the bytes, whatever bytes are a plan's; all others are none. Each byte is put at each place, taken away, and doubled.
func TestChangedBytes(t *testing.T) {
	b := bytesTold(goodPlan())
	taken := 0
	try := func(b []byte) {
		t.Helper()
		p, e := plan.Decode(b)
		if e != api.OK {
			checkNoBytes(t, b)
			return
		}
		taken++
		if back := bytesTold(p); !slices.Equal(back, b) || !mayBe(p) {
			t.Errorf("Decode(%x): %s, whose bytes are %x", b, short(p), back)
		}
		checkPlan(t, p)
	}
	for i := range b {
		for c := range 256 {
			changed := slices.Clone(b)
			changed[i] = byte(c)
			try(changed)
			try(slices.Insert(slices.Clone(b), i, byte(c)))
		}
		try(slices.Delete(slices.Clone(b), i, i+1))
		try(slices.Insert(slices.Clone(b), i, b[i]))
	}
	r := rand.New(rand.NewPCG(16, 2))
	for range 20000 {
		changed := slices.Clone(b)
		for range 1 + r.IntN(3) {
			changed[r.IntN(len(b))] = byte(r.IntN(4))
		}
		try(changed)
	}
	if taken < 500 {
		t.Errorf("only %d changed bytes were a plan's", taken)
	}
}
