package symbols_test

import (
	"strings"
	"testing"

	"newel/api"
	"newel/symbols"
)

// P6.4: the text of the sample.
func TestText(t *testing.T) {
	want := strings.Join([]string{
		"trait Shape 4 +A",
		"  field name 8",
		"  method area 1 0",
		"  type Unit",
		"class Base 5 A -B",
		"  method less 0 2",
		"class Circle 32",
		"  field x 0",
		"  field y 2",
		"  field size 256",
		"  field n 640",
		"  method area 18 0",
		"object Main# 0",
		"  method main 0 0",
		"class Main#.Inner 8",
		"object Main#.Inner.Deep# 34",
		"  method deep 1032 0",
		"class Meter 96",
		"  field v 0",
		"class End 16386",
		"  type Unit",
		"  type Other",
		"trait Trait 0 A",
		"method + 4096 2",
		"",
	}, "\n")
	if s, e := symbols.Text(sample()); s != want || e != api.OK {
		t.Errorf("Text = %v\n%s", e, s)
	}
	p := sample()
	p.Classes[cCircle].Fields = []int{fN, fY, fX, fSize}
	p.Classes[cBase].TParams = []int{tBaseB, tBaseA}
	if s, _ := symbols.Text(p); !strings.Contains(s, "field n 640\n  field y 2\n  field x 0\n  field size") || !strings.Contains(s, "Base 5 -B A\n") {
		t.Errorf("lists in another order:\n%s", s)
	}
}

// P6.4: the Code of Check, for each fault.
func TestTextOfFaults(t *testing.T) {
	for _, c := range changes() {
		if s, e := symbols.Text(changed(c)); s != "" || e != c.want.Code {
			t.Errorf("Text = %q, %v, not %v", s, e, c.want.Code)
		}
	}
}

// P6.4: at most api.MaxText bytes.
func TestTextLimit(t *testing.T) {
	for more := range 3 {
		b := newBuilder()
		for i := range 30 {
			b.class(api.IsObject, 0, i-1, strings.Repeat("o", 64))
		}
		// The line of a function has 12 bytes and its name.
		for rest := api.MaxText - 1 + more - len(declarations(&b.p)); rest > 0; {
			size := min(rest, 76)
			if left := rest - size; left > 0 && left < 13 {
				size -= 13
			}
			b.method(-1, 0, strings.Repeat("f", size-12))
			rest -= size
		}
		want := declarations(&b.p)
		s, e := symbols.Text(b.p)
		switch {
		case len(want) != api.MaxText-1+more:
			t.Errorf("%d bytes", len(want))
		case more < 2 && (s != want || e != api.OK), more == 2 && (s != "" || e != api.ErrLimit):
			t.Errorf("%d bytes: %v, %d bytes", len(want), e, len(s))
		}
	}
}
