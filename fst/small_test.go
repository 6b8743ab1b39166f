package fst_test

import (
	"math"
	"slices"
	"testing"

	"cedilla/api"
)

// P14.1 to P14.3, P1: all transducers of two states, of which the root has at most two arcs, whatever these are.
func TestAllOfTwoStates(t *testing.T) {
	ends := []api.State{state(), final(0), final(3), final(greatest), {Out: 5}, final(1, arc('a', 2, 0)), final(0, arc('b', 0, 1), arc('a', 0, -1))}
	var arcs []api.Arc
	for _, b := range []byte("ab") {
		for _, out := range []uint64{0, 1, math.MaxUint64} {
			for to := -1; to < 3; to++ {
				arcs = append(arcs, arc(b, out, to))
			}
		}
	}
	rows := [][]api.Arc{nil}
	for _, a := range arcs {
		rows = append(rows, []api.Arc{a})
		for _, b := range arcs {
			rows = append(rows, []api.Arc{a, b})
		}
	}
	for _, end := range ends {
		for _, row := range rows {
			asSaid(t, made(0, end, state(row...)))
			asSaid(t, made(1, end, final(2, row...)))
		}
	}
}

// P14.1 to P14.3: all of three states with arcs that go down, of two bytes, in both orders.
func TestAllOfThreeStates(t *testing.T) {
	ways := func(at int) [][]api.Arc {
		rows := [][]api.Arc{nil}
		for to := range at {
			for _, out := range []uint64{0, greatest} {
				rows = append(rows, []api.Arc{arc('a', out, to)}, []api.Arc{arc('b', out, to)})
				for other := range at {
					rows = append(rows, []api.Arc{arc('a', out, to), arc('b', 1, other)}, []api.Arc{arc('b', out, to), arc('a', 1, other)})
				}
			}
		}
		return rows
	}
	for _, end := range []api.State{state(), final(0), final(greatest)} {
		for _, mid := range ways(1) {
			for _, root := range ways(2) {
				for kinds := range 4 {
					asSaid(t, made(0, end, api.State{Final: kinds%2 > 0, Arcs: mid}, api.State{Final: kinds > 1, Arcs: root}))
				}
			}
		}
	}
}

// P14.1 to P14.3, P1: of many transducers of all kinds, with whatever arcs and outs, all is as the words say.
func TestManyOfAllKinds(t *testing.T) {
	n := numbers(14)
	small := []uint64{0, 1, 2, 5}
	edges := slices.Concat(values(), tooGreat())
	for range 1500 {
		asSaid(t, n.fst(5, 4, "ab", small))
		asSaid(t, n.fst(5, 5, "abc", small))
		asSaid(t, n.fst(6, 4, "ab", edges))
		asSaid(t, n.fst(4, 6, "\x00\x7f\x80\xff", edges))
	}
	for range 150 {
		asSaid(t, n.fst(9, 3, "ab", small))
		asSaid(t, n.fst(9, 3, "ab", edges))
	}
}
