package sample

import (
	"testing"

	"straggle/check"
	"straggle/parse"
	"straggle/tree"
)

// All shapes may be, and no two are the same.
func TestShapes(t *testing.T) {
	all := Shapes()
	if len(all) != 416 {
		t.Errorf("%d shapes", len(all))
	}
	for i, p := range all {
		if !check.Right(p) {
			t.Errorf("%v may not be", p)
		}
		for _, other := range all[:i] {
			if tree.Same(p, other) {
				t.Errorf("%v comes twice", p)
			}
		}
	}
}

// None of the wrong ones may be, and each of check's rules is broken by some of those that may be written.
func TestWrong(t *testing.T) {
	broken := map[int]int{}
	for _, p := range Wrong() {
		rule, _, e := check.Check(p)
		if e == 0 {
			t.Errorf("%v may be", p)
		}
		broken[rule]++
	}
	for rule := range 8 {
		if broken[rule] < 2 {
			t.Errorf("rule %d is broken by %d", rule, broken[rule])
		}
	}
	for _, text := range wrongTexts() {
		if p, at, e := parse.Parse(text); e != 0 || !tree.Right(p) {
			t.Errorf("%q: %d at %d", text, e, at)
		}
	}
}
