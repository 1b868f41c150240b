// Package sample holds patterns and events that the tests of several layers go through. No layer calls it.
package sample

import (
	"math"
	"slices"

	"straggle/api"
	"straggle/parse"
)

// Times is a positive step that comes from least to most times.
func Times(least, most int) api.Step { return api.Step{Min: least, Max: most} }

// Not is a negative step.
func Not() api.Step { return api.Step{Not: true, Min: 1, Max: 1} }

// Of is a pattern of these steps.
func Of(steps ...api.Step) api.Pattern { return api.Pattern{Steps: steps, Window: 50} }

// Shapes are all patterns that may be, as to how often steps come: of up to six steps, each of them negative, or positive with each Min and Max.
func Shapes() []api.Pattern {
	var all []api.Pattern
	shorter := []api.Pattern{{}}
	for range api.MaxSteps {
		var longer []api.Pattern
		for _, p := range shorter {
			longer = slices.Concat(longer, further(p))
		}
		all = slices.Concat(all, longer)
		shorter = longer
	}
	return all
}

// further are the patterns that may be with one step more than this one.
func further(p api.Pattern) []api.Pattern {
	var l []api.Pattern
	room := api.MaxLong
	for _, s := range p.Steps {
		if !s.Not {
			room -= s.Max
		}
	}
	for _, s := range []api.Step{Not(), Times(1, 1), Times(1, 2), Times(1, 3), Times(2, 2), Times(2, 3), Times(3, 3)} {
		if s.Not && len(p.Steps) > 0 || !s.Not && s.Max <= room {
			l = append(l, Of(slices.Concat(p.Steps, []api.Step{s})...))
		}
	}
	return l
}

// Wrong are patterns that may not be: such as may not be written, and by each of check's rules.
func Wrong() []api.Pattern {
	once := Times(1, 1)
	l := []api.Pattern{
		{}, {Window: 5}, {Steps: []api.Step{}}, {Steps: make([]api.Step, 0, 9), Window: 7},
		{Steps: make([]api.Step, 1)}, {Steps: make([]api.Step, 27)}, {Steps: slices.Repeat([]api.Step{once}, 100000)},
		{Steps: []api.Step{once}, Window: -1}, {Steps: []api.Step{once}, Window: 1<<40 + 1},
		Of(api.Step{Kind: -1, Min: 1, Max: 1}), Of(api.Step{Min: 1, Max: 1, Cmps: make([]api.Cmp, 1)}),
		Of(Times(-1, 1)), Of(Times(1, -1)), Of(Times(math.MinInt, math.MaxInt)), Of(Times(1, math.MaxInt)), Of(Times(math.MaxInt, math.MaxInt)),
		Of(Times(1, 1<<40)), Of(once, Times(1, 1<<40)), Of(once, Times(1, math.MaxInt), Times(1, math.MaxInt)),
		Of(Times(1, 1<<32+1)), Of(Times(1<<32+1, 1<<32+1)),
		Of(api.Step{Min: 1, Max: 1, Strict: true}), Of(once, api.Step{Not: true, Min: 1, Max: 1, Strict: true}),
	}
	for _, text := range wrongTexts() {
		p, _, _ := parse.Parse(text)
		l = append(l, p)
	}
	return l
}

// wrongTexts are texts of patterns that may be written, and may not be: some for each of check's rules, from the first one on.
func wrongTexts() []string {
	return []string{
		"0a;1b;2c;3d;!4e;!5f;!0g within 5", "0a within 1073741825",
		"!0a within 5", "!0a;1b within 5", "!0a;!1b within 5",
		"6a within 5", "0a;6b within 5", "0a;!9b within 5",
		"0a;!1b{0,1} within 5", "0a;!1b{1,2};2c within 5", "0a;!1b{0,0} within 5", "0a,!1b within 5", "0a;!1b,2c within 5",
		"0a{0,1} within 5", "0a{0,0} within 5", "0a;1b{2,1} within 5", "0a{1,4} within 5", "0a{4,4} within 5",
		"0a{1,3};1b{1,2} within 5", "0a{1,2};1b{1,2};2c within 5", "0a;0b;0c;0d;0e within 5",
		"0a[1=1&1=1&1=1&1=1&1=1] within 5", "0a[t(b)>5];1b within 5", "0a;!1b;2c[t(b)>5] within 5", "0a{1,2};2b[t(a)>5] within 5",
	}
}
