package tests

import (
	"math"
	"testing"

	"loop.example/g03000/impl"
)

// Of chapter 3, only EqualInts is built so far.

func TestEqualInts(t *testing.T) {
	cases := []struct {
		name string
		a, b []int
		want bool
	}{
		{"nil and nil", nil, nil, true},
		{"nil and empty", nil, []int{}, true},
		{"empty and empty", []int{}, []int{}, true},
		{"nil and zero", nil, []int{0}, false},
		{"empty and one", []int{}, []int{5}, false},
		{"one", []int{5}, []int{5}, true},
		{"another one", []int{5}, []int{6}, false},
		{"opposite signs", []int{5}, []int{-5}, false},
		{"equal", []int{1, 2, 3}, []int{1, 2, 3}, true},
		{"other first", []int{1, 2, 3}, []int{9, 2, 3}, false},
		{"other middle", []int{1, 2, 3}, []int{1, 9, 3}, false},
		{"other last", []int{1, 2, 3}, []int{1, 2, 9}, false},
		{"other order", []int{1, 2, 3}, []int{1, 3, 2}, false},
		{"beginning", []int{1, 2}, []int{1, 2, 3}, false},
		{"end", []int{2, 3}, []int{1, 2, 3}, false},
		{"zero behind", []int{1}, []int{1, 0}, false},
		{"repeated", []int{1}, []int{1, 1}, false},
		{"greatest and least", []int{math.MaxInt, math.MinInt}, []int{math.MaxInt, math.MinInt}, true},
		{"greatest or least", []int{math.MaxInt}, []int{math.MinInt}, false},
		{"equal low bits", []int{1}, []int{1 + 1<<32}, false},
	}
	for _, c := range cases {
		if got := impl.EqualInts(c.a, c.b); got != c.want {
			t.Errorf("%s: EqualInts(%v, %v) is %v", c.name, c.a, c.b, got)
		}
		if got := impl.EqualInts(c.b, c.a); got != c.want {
			t.Errorf("%s: EqualInts(%v, %v) is %v", c.name, c.b, c.a, got)
		}
	}
	long := make([]int, 3, 9)
	if !impl.EqualInts(long, make([]int, 3)) {
		t.Error("capacities count")
	}
}

func TestEqualIntsKeepsArguments(t *testing.T) {
	a, b := []int{1, 2, 3, 77}[:3], []int{1, 2, 4, 88}[:3]
	impl.EqualInts(a, b)
	for i, want := range []int{1, 2, 3, 77} {
		if a[:4][i] != want {
			t.Errorf("a is now %v", a[:4])
		}
	}
	for i, want := range []int{1, 2, 4, 88} {
		if b[:4][i] != want {
			t.Errorf("b is now %v", b[:4])
		}
	}
}
