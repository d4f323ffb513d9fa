package code_test

import (
	"bytes"
	"encoding/binary"
	"fmt"
	"math"
	"slices"
	"strings"

	"bastion/api"
	"bastion/code"
)

// kind is a kind of things, with what the chapter says of it told a second time, by encoding/binary.
type kind struct {
	name   string
	none   any
	things func() []any
	lay    func(b []byte, thing any) []byte
	want   func(thing any) []byte
	take   func(r *code.Reader, most int) any
	look   func(b []byte, most int) (any, int) // what must be taken off, and its bytes; 0: it must fail
}

func kinds() []kind {
	return []kind{numKind(), countKind(), strKind(), flagKind()}
}

func numKind() kind {
	return kind{
		name:   "Num",
		none:   int64(0),
		things: numbers,
		lay:    func(b []byte, thing any) []byte { return code.Num(b, thing.(int64)) },
		want:   func(thing any) []byte { return binary.AppendVarint(nil, thing.(int64)) },
		take:   func(r *code.Reader, most int) any { return r.Num() },
		look: func(b []byte, most int) (any, int) {
			n, size := binary.Varint(b)
			if size <= 0 || !bytes.Equal(binary.AppendVarint(nil, n), b[:size]) {
				return int64(0), 0
			}
			return n, size
		},
	}
}

func countKind() kind {
	return kind{
		name:   "Count",
		none:   0,
		things: counts,
		lay:    func(b []byte, thing any) []byte { return code.Count(b, thing.(int)) },
		want:   func(thing any) []byte { return binary.AppendUvarint(nil, uint64(thing.(int))) },
		take:   func(r *code.Reader, most int) any { return r.Count(most) },
		look: func(b []byte, most int) (any, int) {
			n, size := lookCount(b, most)
			return n, size
		},
	}
}

func strKind() kind {
	return kind{
		name:   "Str",
		none:   "",
		things: texts,
		lay:    func(b []byte, thing any) []byte { return code.Str(b, thing.(string)) },
		want: func(thing any) []byte {
			s := thing.(string)
			return append(binary.AppendUvarint(nil, uint64(len(s))), s...)
		},
		take: func(r *code.Reader, most int) any { return r.Str(most) },
		look: func(b []byte, most int) (any, int) {
			n, head := lookCount(b, most)
			if head == 0 || len(b)-head < n {
				return "", 0
			}
			return string(b[head : head+n]), head + n
		},
	}
}

func flagKind() kind {
	return kind{
		name:   "Flag",
		none:   false,
		things: func() []any { return []any{false, true} },
		lay:    func(b []byte, thing any) []byte { return code.Flag(b, thing.(bool)) },
		want: func(thing any) []byte {
			if thing.(bool) {
				return []byte{1}
			}
			return []byte{0}
		},
		take: func(r *code.Reader, most int) any { return r.Flag() },
		look: func(b []byte, most int) (any, int) {
			if len(b) == 0 || b[0] > 1 {
				return false, 0
			}
			return b[0] == 1, 1
		},
	}
}

func lookCount(b []byte, most int) (int, int) {
	u, size := binary.Uvarint(b)
	if size <= 0 || !bytes.Equal(binary.AppendUvarint(nil, u), b[:size]) {
		return 0, 0
	}
	if most < 0 || u > uint64(most) || u > api.MaxCount {
		return 0, 0
	}
	return int(u), size
}

// numbers are those beside the powers of 2, of both signs, rising.
func numbers() []any {
	all := []int64{math.MinInt64, math.MinInt64 + 1, math.MaxInt64, math.MaxInt64 - 1, 300, -300}
	for i := range 63 {
		for d := int64(-2); d <= 2; d++ {
			all = append(all, 1<<i+d, -(1<<i)+d)
		}
	}
	slices.Sort(all)
	var out []any
	for _, n := range slices.Compact(all) {
		out = append(out, n)
	}
	return out
}

// counts are those beside the powers of 2, rising.
func counts() []any {
	all := []int{0, 300, api.MaxCount, api.MaxCount - 1}
	for i := range 31 {
		for d := -2; d <= 2; d++ {
			if n := 1<<i + d; n >= 0 {
				all = append(all, n)
			}
		}
	}
	slices.Sort(all)
	var out []any
	for _, n := range slices.Compact(all) {
		out = append(out, n)
	}
	return out
}

// texts are of lengths whose groups are one, two and three, and of bytes that look like groups.
func texts() []any {
	return []any{
		"", "n", "no", "\x00", "\x00\x00", "\x01", "\x80", "\xff\xfe\xfd", "\x02no", "né\n\t\"",
		strings.Repeat("\x80", 126), strings.Repeat("a", 127), strings.Repeat("b", 128), strings.Repeat("\x00", 129),
		strings.Repeat("x", 1<<14-1), strings.Repeat("y", 1<<14), strings.Repeat("z", 1<<14+1),
	}
}

// odd are bytes of which most are nothing: a rule without chance, so that each run sees the same.
func odd(seed uint32, size int) []byte {
	edges := []byte{0x00, 0x01, 0x02, 0x03, 0x07, 0x08, 0x7f, 0x80, 0x81, 0xfe, 0xff}
	b := make([]byte, size)
	for i := range b {
		seed = seed*1664525 + 1013904223
		b[i] = byte(seed >> 24)
		if seed>>23&1 == 0 {
			b[i] = edges[int(seed>>8)%len(edges)]
		}
	}
	return b
}

// shown is a thing as a failing test tells it: short, and in plain letters.
func shown(thing any) string {
	return fmt.Sprintf("%.60s", fmt.Sprintf("%#v", thing))
}
