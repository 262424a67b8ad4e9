package group_test

import (
	"errors"
	"fmt"
	"math/rand"
	"slices"
	"strings"
	"testing"

	"belvedere/api"
	"belvedere/group"
)

const (
	mostObjects = 1024
	mostNames   = 4096
)

// holds tells whether an error is just that number; of 0, whether there is none.
func holds(err error, want api.Errno) bool {
	if want == 0 {
		return err == nil
	}
	var got api.Errno
	return errors.As(err, &got) && got == want
}

// called is the name that a word stands for: of a dot the empty one.
func called(word string) string {
	if word == "." {
		return ""
	}
	return word
}

// words are the names that a text's words stand for.
func words(s string) []string {
	l := strings.Fields(s)
	for i := range l {
		l[i] = called(l[i])
	}
	return l
}

// one is a group, told as its name, its members and its groups.
func one(name, members, groups string) group.Group {
	return group.Group{Name: called(name), Members: words(members), Groups: words(groups)}
}

// all are groups.
func all(l ...group.Group) []group.Group { return l }

// item is an item, told as its name and its groups.
func item(name, groups string) group.Item {
	return group.Item{Name: called(name), Groups: words(groups)}
}

// items are items.
func items(l ...group.Item) []group.Item { return l }

// named are items of these names, without groups.
func named(names string) []group.Item {
	var l []group.Item
	for _, name := range words(names) {
		l = append(l, group.Item{Name: name})
	}
	return l
}

// number is a name for a number.
func number(i int) string { return fmt.Sprintf("n%d", i) }

// numbers are the names of the numbers from one on, up to another one.
func numbers(from, to int) []string {
	var l []string
	for i := from; i < to; i++ {
		l = append(l, number(i))
	}
	return l
}

// repeated is a name, so many times.
func repeated(name string, n int) []string { return slices.Repeat([]string{name}, n) }

// manyGroups are so many groups of nothing.
func manyGroups(n int) []group.Group {
	l := make([]group.Group, n)
	for i := range l {
		l[i].Name = number(i)
	}
	return l
}

// manyItems are so many items of no group.
func manyItems(n int) []group.Item {
	l := make([]group.Item, n)
	for i := range l {
		l[i].Name = number(i)
	}
	return l
}

// copyOf are lists that share nothing with others.
func copyOf[T any](l [][]T) [][]T {
	c := make([][]T, len(l))
	for i := range l {
		c[i] = slices.Clone(l[i])
	}
	return c
}

// copyGroups are groups that share nothing with others.
func copyGroups(l []group.Group) []group.Group {
	c := slices.Clone(l)
	for i := range c {
		c[i].Members, c[i].Groups = slices.Clone(c[i].Members), slices.Clone(c[i].Groups)
	}
	return c
}

// copyItems are items that share nothing with others.
func copyItems(l []group.Item) []group.Item {
	c := slices.Clone(l)
	for i := range c {
		c[i].Groups = slices.Clone(c[i].Groups)
	}
	return c
}

// same tells whether lists are the same, empty and nil ones too.
func same(a, b [][]int) bool {
	return slices.EqualFunc(a, b, func(a, b []int) bool { return slices.Equal(a, b) })
}

// sameGroups tells whether groups are the same.
func sameGroups(a, b []group.Group) bool {
	return slices.EqualFunc(a, b, func(a, b group.Group) bool {
		return a.Name == b.Name && slices.Equal(a.Members, b.Members) && slices.Equal(a.Groups, b.Groups)
	})
}

// sameItems tells whether items are the same.
func sameItems(a, b []group.Item) bool {
	return slices.EqualFunc(a, b, func(a, b group.Item) bool { return a.Name == b.Name && slices.Equal(a.Groups, b.Groups) })
}

// areMembers asks for the members of all groups, told as their places, group by group, with commas between.
func areMembers(t *testing.T, groups []group.Group, items []group.Item, want string) {
	t.Helper()
	got, at, err := group.Expand(groups, items)
	var told []string
	for _, members := range got {
		told = append(told, strings.Trim(fmt.Sprint(members), "[]"))
	}
	if strings.Join(told, ",") != want || len(got) != len(groups) || at != 0 || err != nil {
		t.Errorf("Expand(%.300q, %.300q): %d lists, %.300v, %d, %v, not %s", groups, items, len(got), got, at, err, want)
	}
}

// isFine asks for no error, and one list for each group.
func isFine(t *testing.T, groups []group.Group, items []group.Item) {
	t.Helper()
	if got, at, err := group.Expand(groups, items); len(got) != len(groups) || at != 0 || err != nil {
		t.Errorf("Expand(%.300q, %.300q): %d lists, %d, %v", groups, items, len(got), at, err)
	}
}

// isWrong asks for an error at a place, and no lists beside it.
func isWrong(t *testing.T, groups []group.Group, items []group.Item, place int, want api.Errno) {
	t.Helper()
	if got, at, err := group.Expand(groups, items); len(got) != 0 || at != place || !holds(err, want) {
		t.Errorf("Expand(%.300q, %.300q): %d lists, %d, %v, not error %d at %d", groups, items, len(got), at, err, int(want), place)
	}
}

// isFull asks for ErrFull at 0.
func isFull(t *testing.T, groups []group.Group, items []group.Item) {
	t.Helper()
	isWrong(t, groups, items, 0, api.ErrFull)
}

// plainGroup is the place of the first group of a name; -1, if there is none.
func plainGroup(groups []group.Group, name string) int {
	return slices.IndexFunc(groups, func(g group.Group) bool { return g.Name == name })
}

// plainItem is the place of the first item of a name; -1, if there is none.
func plainItem(items []group.Item, name string) int {
	return slices.IndexFunc(items, func(i group.Item) bool { return i.Name == name })
}

// plainLeads tells which groups one has for members, by way of Groups.
func plainLeads(groups []group.Group, from int) []bool {
	leads := make([]bool, len(groups))
	for goesOn := true; goesOn; {
		goesOn = false
		for i, g := range groups {
			if i != from && !leads[i] {
				continue
			}
			for _, name := range g.Groups {
				if to := plainGroup(groups, name); !leads[to] {
					leads[to], goesOn = true, true
				}
			}
		}
	}
	return leads
}

// plainFull tells whether there is too much of something.
func plainFull(groups []group.Group, items []group.Item) bool {
	full := len(groups) > mostObjects || len(items) > mostObjects
	for _, g := range groups {
		full = full || len(g.Members) > mostNames || len(g.Groups) > mostNames
	}
	for _, i := range items {
		full = full || len(i.Groups) > mostNames
	}
	return full
}

// plainFault is what is wrong first, and where, by the words of GP1.
func plainFault(groups []group.Group, items []group.Item) (int, api.Errno) {
	if plainFull(groups, items) {
		return 0, api.ErrFull
	}
	for i, g := range groups {
		if plainGroup(groups, g.Name) < i {
			return i, api.ErrTwice
		}
	}
	for i, one := range items {
		if plainItem(items, one.Name) < i {
			return len(groups) + i, api.ErrTwice
		}
	}
	isNoGroup := func(name string) bool { return plainGroup(groups, name) < 0 }
	isNoItem := func(name string) bool { return plainItem(items, name) < 0 }
	for i, g := range groups {
		if slices.ContainsFunc(g.Members, isNoItem) || slices.ContainsFunc(g.Groups, isNoGroup) {
			return i, api.ErrNone
		}
	}
	for i, one := range items {
		if slices.ContainsFunc(one.Groups, isNoGroup) {
			return len(groups) + i, api.ErrNone
		}
	}
	for i := range groups {
		if plainLeads(groups, i)[i] {
			return i, api.ErrLoop
		}
	}
	return 0, 0
}

// plainMembers are the members of groups of which nothing is wrong, by the words alone.
func plainMembers(groups []group.Group, items []group.Item) [][]int {
	lists := make([][]int, len(groups))
	for i := range groups {
		leads := plainLeads(groups, i)
		leads[i] = true
		for place, one := range items {
			isMember := func(g group.Group) bool {
				return leads[plainGroup(groups, g.Name)] && (slices.Contains(g.Members, one.Name) || slices.Contains(one.Groups, g.Name))
			}
			if slices.ContainsFunc(groups, isMember) {
				lists[i] = append(lists[i], place)
			}
		}
	}
	return lists
}

// isPlain holds an answer against the words alone; it tells what is wrong, if something is.
func isPlain(t *testing.T, groups []group.Group, items []group.Item) api.Errno {
	t.Helper()
	var want [][]int
	place, wrong := plainFault(groups, items)
	if wrong == 0 {
		want = plainMembers(groups, items)
	}
	if got, at, err := group.Expand(groups, items); !same(got, want) || at != place || !holds(err, wrong) {
		t.Fatalf("Expand(%q, %q): %v, %d, %v, not %v, %d, error %d", groups, items, got, at, err, want, place, int(wrong))
	}
	return wrong
}

// some are up to so many of a list, in any order, some of them twice.
func some(r *rand.Rand, names []string, most int) []string {
	if len(names) == 0 {
		return nil
	}
	var l []string
	for range r.Intn(most + 1) {
		l = append(l, names[r.Intn(len(names))])
	}
	return l
}

// ordinary are groups and items of which nothing is wrong: in any order, with any names.
func ordinary(r *rand.Rand) ([]group.Group, []group.Item) {
	names := append(numbers(0, 140), "", " ", "a b", "\xff", "n0\x00", "é", "null", "+n1", strings.Repeat("x", 100))
	groupNames := slices.Clone(names)
	r.Shuffle(len(names), func(i, j int) { names[i], names[j] = names[j], names[i] })
	r.Shuffle(len(groupNames), func(i, j int) { groupNames[i], groupNames[j] = groupNames[j], groupNames[i] })
	itemNames := names[:r.Intn(11)]
	// More than a word has bits, now and then.
	if r.Intn(10) == 0 {
		itemNames = names[:r.Intn(len(names))]
	}
	groupNames = groupNames[:r.Intn(9)]
	var groups []group.Group
	for i, name := range groupNames {
		groups = append(groups, group.Group{Name: name, Members: some(r, itemNames, 3), Groups: some(r, groupNames[:i], 2)})
	}
	r.Shuffle(len(groups), func(i, j int) { groups[i], groups[j] = groups[j], groups[i] })
	var items []group.Item
	for _, name := range itemNames {
		items = append(items, group.Item{Name: name, Groups: some(r, groupNames, r.Intn(3))})
	}
	return groups, items
}

// wild are groups and items of which much may be wrong.
func wild(r *rand.Rand) ([]group.Group, []group.Item) {
	names := numbers(0, 4+r.Intn(12))
	names[0] = ""
	var groups []group.Group
	for range r.Intn(6) {
		groups = append(groups, group.Group{Name: names[r.Intn(len(names))]})
	}
	var items []group.Item
	for range r.Intn(6) {
		items = append(items, group.Item{Name: names[r.Intn(len(names))]})
	}
	groupNames, itemNames := []string{}, []string{}
	for _, g := range groups {
		groupNames = append(groupNames, g.Name)
	}
	for _, i := range items {
		itemNames = append(itemNames, i.Name)
	}
	// Names that there are, so that loops come up, and now and then any.
	if r.Intn(3) == 0 {
		groupNames, itemNames = append(groupNames, names...), append(itemNames, names...)
	}
	for i := range groups {
		groups[i].Members, groups[i].Groups = some(r, itemNames, 2), some(r, groupNames, 2)
	}
	for i := range items {
		items[i].Groups = some(r, groupNames, 2)
	}
	return groups, items
}

// The chapter's example.
func TestExample(t *testing.T) {
	areMembers(t, all(one("a", "x", ""), one("b", "", "a")), items(item("x", ""), item("y", "b")), "0,0 1")
}

// GP1: of nothing there is nothing.
func TestNothing(t *testing.T) {
	areMembers(t, nil, nil, "")
	areMembers(t, []group.Group{}, []group.Item{}, "")
	areMembers(t, nil, named("a b c"), "")
	isWrong(t, nil, named("a b a"), 2, api.ErrTwice)
	isWrong(t, nil, items(item("a", ""), item("b", "b")), 1, api.ErrNone)
}

// GP1: a group without members has an empty list.
func TestNoMembers(t *testing.T) {
	areMembers(t, all(one("a", "", "")), nil, "")
	areMembers(t, all(one("a", "", "")), named("x y"), "")
	areMembers(t, all(one("a", "", ""), one("b", "", ""), one("c", "", "")), named("x y"), ",,")
	areMembers(t, all(one("a", "", "b c"), one("b", "", "c"), one("c", "", "")), named("x"), ",,")
	areMembers(t, all(one("a", "", ""), one("b", "x", "a"), one("c", "", "")), named("x"), ",0,")
	areMembers(t, all(group.Group{Name: "a", Members: []string{}, Groups: []string{}}), items(group.Item{Name: "x", Groups: []string{}}), "")
}

// GP1: just so many groups and items as there may be.
func TestMostObjects(t *testing.T) {
	isFine(t, manyGroups(mostObjects), nil)
	isFine(t, nil, manyItems(mostObjects))
	isFine(t, manyGroups(mostObjects), manyItems(mostObjects))
	isFine(t, manyGroups(mostObjects-1), manyItems(mostObjects-1))
}

// GP1: one group more, or one item more, is too much; so are many more.
func TestObjectsFull(t *testing.T) {
	for _, n := range []int{mostObjects + 1, mostObjects + 2, 2 * mostObjects, mostNames, mostNames + 1, 1 << 16} {
		isFull(t, manyGroups(n), nil)
		isFull(t, manyGroups(n), manyItems(mostObjects))
		isFull(t, nil, manyItems(n))
		isFull(t, manyGroups(mostObjects), manyItems(n))
		isFull(t, manyGroups(n), manyItems(n))
		isFull(t, make([]group.Group, n), nil)
		isFull(t, nil, make([]group.Item, n))
	}
}

// listed are groups and items, of which one has a list of names: of items, of groups, of an item's groups, by which.
func listed(which, at int, list []string) ([]group.Group, []group.Item) {
	groups, items := manyGroups(5), manyItems(5)
	switch which {
	case 0:
		groups[at].Members = list
	case 1:
		groups[at].Groups = list
	default:
		items[at].Groups = list
	}
	return groups, items
}

// GP1: just so many names as a list may have, and one more, of each list, at the first group or item, at the last one, and between.
func TestLists(t *testing.T) {
	for which := range 3 {
		for at := range 5 {
			for _, list := range [][]string{repeated(number((at+1)%5), mostNames), repeated(number((at+1)%5), mostNames-1)} {
				groups, items := listed(which, at, list)
				isFine(t, groups, items)
				groups, items = listed(which, at, append(list, repeated(number((at+1)%5), 2)...))
				isFull(t, groups, items)
			}
			groups, items := listed(which, at, repeated("", mostNames+1))
			isFull(t, groups, items)
			groups, items = listed(which, at, repeated(number(at), 3*mostNames))
			isFull(t, groups, items)
			place := at
			if which == 2 {
				place = at + 5
			}
			groups, items = listed(which, at, numbers(1, mostNames+1))
			isWrong(t, groups, items, place, api.ErrNone)
			groups, items = listed(which, at, numbers(0, mostNames+1))
			isFull(t, groups, items)
		}
	}
}

// GP1: lists may be so long at the last of as many groups and items as there may be.
func TestListsAtTheEnd(t *testing.T) {
	last := mostObjects - 1
	for _, n := range []int{mostNames, mostNames + 1} {
		ask := isFine
		if n > mostNames {
			ask = isFull
		}
		groups, items := manyGroups(mostObjects), manyItems(mostObjects)
		groups[last].Members = repeated(number(last), n)
		ask(t, groups, items)
		groups, items = manyGroups(mostObjects), manyItems(mostObjects)
		groups[last].Groups = repeated(number(0), n)
		ask(t, groups, items)
		groups, items = manyGroups(mostObjects), manyItems(mostObjects)
		items[last].Groups = repeated(number(last), n)
		ask(t, groups, items)
	}
}

// GP1: names are counted, those that are there again too, in each list by itself.
func TestListsAreCountedAlone(t *testing.T) {
	groups, items := manyGroups(5), manyItems(5)
	for i := range 5 {
		groups[i].Members = repeated(number(i), mostNames)
		items[i].Groups = repeated(number(i), mostNames)
		if i > 0 {
			groups[i].Groups = repeated(number(i-1), mostNames)
		}
	}
	areMembers(t, groups, items, "0,0 1,0 1 2,0 1 2 3,0 1 2 3 4")
}

// GP1: ErrFull comes ahead of all else, wherever that is.
func TestFullAheadOfAll(t *testing.T) {
	tooMany := repeated("x", mostNames+1)
	wrongGroups := [][]group.Group{
		all(one("a", "", ""), one("a", "", ""), one("b", "", "")),
		all(one("a", "none", ""), one("b", "", "none")),
		all(one("a", "", "a"), one("b", "", "a")),
		all(one("a", "", "b"), one("b", "", "a"), one("b", "none", "b")),
	}
	wrongItems := [][]group.Item{named("x x"), items(item("x", "none")), items(item("x", "none"), item("x", "none"))}
	for _, groups := range wrongGroups {
		for _, wrong := range wrongItems {
			isFull(t, append(copyGroups(groups), group.Group{Name: "z", Members: tooMany}), wrong)
			isFull(t, append(copyGroups(groups), group.Group{Name: "z", Groups: tooMany}), wrong)
			isFull(t, groups, append(copyItems(wrong), group.Item{Name: "z", Groups: tooMany}))
			isFull(t, append(copyGroups(groups), manyGroups(mostObjects)...), wrong)
			isFull(t, groups, append(copyItems(wrong), manyItems(mostObjects)...))
		}
	}
	isFull(t, make([]group.Group, mostObjects+1), make([]group.Item, mostObjects+1))
}

// GP1: two of one name.
func TestTwice(t *testing.T) {
	isWrong(t, all(one("a", "", ""), one("a", "", "")), nil, 1, api.ErrTwice)
	isWrong(t, all(one("a", "", ""), one("b", "", ""), one("c", "", ""), one("b", "", "")), nil, 3, api.ErrTwice)
	isWrong(t, all(one("a", "", ""), one("b", "", ""), one("b", "", ""), one("a", "", "")), nil, 2, api.ErrTwice)
	isWrong(t, nil, named("x x"), 1, api.ErrTwice)
	isWrong(t, all(one("a", "", "")), named("x y x"), 3, api.ErrTwice)
	isWrong(t, all(one("a", "", ""), one("b", "", ""), one("c", "", "")), named("x y y x"), 5, api.ErrTwice)
	isWrong(t, append(manyGroups(mostObjects-1), one("n0", "", "")), nil, mostObjects-1, api.ErrTwice)
	isWrong(t, manyGroups(mostObjects), append(manyItems(mostObjects-1), item("n1022", "")), 2*mostObjects-1, api.ErrTwice)
}

// GP1: of three of one name the second is told, and of several names the first that has an earlier one's.
func TestTwiceOfThree(t *testing.T) {
	isWrong(t, all(one("a", "", ""), one("a", "", ""), one("a", "", "")), nil, 1, api.ErrTwice)
	isWrong(t, all(one("a", "", ""), one("b", "", ""), one("a", "", ""), one("b", "", ""), one("a", "", "")), nil, 2, api.ErrTwice)
	isWrong(t, nil, named("x x x"), 1, api.ErrTwice)
	isWrong(t, all(one("x", "", "")), named("y x z x y x"), 4, api.ErrTwice)
}

// GP1: a group is told ahead of an item.
func TestTwiceOfGroupsAndItems(t *testing.T) {
	isWrong(t, all(one("a", "", ""), one("b", "", ""), one("b", "", "")), named("x x"), 2, api.ErrTwice)
	isWrong(t, all(one("a", "", ""), one("b", "", ""), one("c", "", ""), one("a", "", "")), named("a a"), 3, api.ErrTwice)
}

// GP1: a group and an item may have one name.
func TestNamesOfBoth(t *testing.T) {
	areMembers(t, all(one("a", "a", ""), one("b", "", "a")), items(item("a", ""), item("b", "b")), "0,0 1")
	areMembers(t, all(one("a", "b", ""), one("b", "a", "a")), items(item("b", ""), item("a", "")), "0,0 1")
	areMembers(t, all(one("a", "", "")), items(item("a", "a")), "0")
}

// GP1: the empty name is one as any other; so are those that no name of layer 9 is.
func TestAnyNames(t *testing.T) {
	areMembers(t, all(one(".", ".", "")), named("."), "0")
	areMembers(t, all(one("a", ". x", ""), one(".", "", "a")), items(item("x", ""), item(".", ""), item("y", ".")), "0 1,0 1 2")
	isWrong(t, all(one(".", "", ""), one("a", "", ""), one(".", "", "")), nil, 2, api.ErrTwice)
	isWrong(t, all(one(".", "", "")), named(". ."), 2, api.ErrTwice)
	isWrong(t, all(one("a", "x .", "")), named("x"), 0, api.ErrNone)
	isWrong(t, all(one("a", "x", ""), one("b", "", ".")), named("x ."), 1, api.ErrNone)
	isWrong(t, all(one("a", "x", "")), items(item("x", ".")), 1, api.ErrNone)
	isWrong(t, all(one(".", "", ".")), nil, 0, api.ErrLoop)
	var groups []group.Group
	var items []group.Item
	var want [][]int
	for i, name := range []string{" ", "a", "A", "a ", " a", "a,b", "\x00", "a\x00", "\xff", "é", "e\u0301", "\n", strings.Repeat("x", 1<<20), strings.Repeat("x", 1<<20) + "y"} {
		groups = append(groups, group.Group{Name: name, Members: []string{name}})
		items = append(items, group.Item{Name: name})
		want = append(want, []int{i})
	}
	if got, at, err := group.Expand(groups, items); !same(got, want) || at != 0 || err != nil {
		t.Errorf("%v, %d, %v, not %v", got, at, err, want)
	}
}

// GP1: what names nothing, in a group.
func TestNoneInGroups(t *testing.T) {
	isWrong(t, all(one("a", "y", "")), named("x"), 0, api.ErrNone)
	isWrong(t, all(one("a", "", "b")), named("x"), 0, api.ErrNone)
	isWrong(t, all(one("a", "x y", "")), named("x"), 0, api.ErrNone)
	isWrong(t, all(one("a", "x", "b c"), one("b", "", "")), named("x"), 0, api.ErrNone)
	isWrong(t, all(one("a", "x", "")), nil, 0, api.ErrNone)
	isWrong(t, all(one("a", "", ""), one("b", "y", ""), one("c", "", "d")), named("x"), 1, api.ErrNone)
	isWrong(t, all(one("a", "", ""), one("b", "", "d"), one("c", "y", "")), named("x"), 1, api.ErrNone)
	isWrong(t, all(one("a", "x", "b"), one("b", "x", "c"), one("c", "x", "d")), named("x"), 2, api.ErrNone)
	isWrong(t, all(one("a", "x", "b"), one("b", "x", "c"), one("c", "X", "")), named("x"), 2, api.ErrNone)
	isWrong(t, all(one("a", "", "A")), nil, 0, api.ErrNone)
}

// GP1: items and groups are named each by their own.
func TestNoneOfItsOwn(t *testing.T) {
	isWrong(t, all(one("b", "", ""), one("a", "b", "")), named("x"), 1, api.ErrNone)
	isWrong(t, all(one("b", "", ""), one("a", "a", "")), named("x"), 1, api.ErrNone)
	isWrong(t, all(one("b", "", ""), one("a", "", "x")), named("x"), 1, api.ErrNone)
	isWrong(t, all(one("b", "", "")), items(item("x", ""), item("y", "x")), 2, api.ErrNone)
	isWrong(t, all(one("b", "", "")), items(item("x", "x")), 1, api.ErrNone)
}

// GP1: what names nothing, in an item, is told behind all groups.
func TestNoneInItems(t *testing.T) {
	isWrong(t, all(one("a", "", "")), items(item("x", "b")), 1, api.ErrNone)
	isWrong(t, all(one("a", "", ""), one("b", "", "")), items(item("x", "a b"), item("y", "a c"), item("z", "d")), 3, api.ErrNone)
	isWrong(t, nil, items(item("x", ""), item("y", "a")), 1, api.ErrNone)
	isWrong(t, all(one("a", "", ""), one("b", "y", "")), items(item("x", "c")), 1, api.ErrNone)
	isWrong(t, all(one("a", "", ""), one("b", "", "c")), items(item("x", "c")), 1, api.ErrNone)
	groups, many := manyGroups(mostObjects), manyItems(mostObjects)
	many[mostObjects-1].Groups = []string{number(3), "none"}
	isWrong(t, groups, many, 2*mostObjects-1, api.ErrNone)
	groups[mostObjects-1].Groups = []string{number(3), "none"}
	isWrong(t, groups, many, mostObjects-1, api.ErrNone)
}

// GP1: what is there twice, also an item, comes ahead of what names nothing.
func TestTwiceAheadOfNone(t *testing.T) {
	isWrong(t, all(one("a", "none", ""), one("b", "", ""), one("b", "", "")), named("x"), 2, api.ErrTwice)
	isWrong(t, all(one("a", "", "none"), one("b", "", "")), named("x y x"), 4, api.ErrTwice)
	isWrong(t, all(one("a", "none", "")), named("x y x"), 3, api.ErrTwice)
	isWrong(t, all(one("a", "", "")), items(item("x", "none"), item("x", "")), 2, api.ErrTwice)
	isWrong(t, all(one("a", "none", "a"), one("a", "", "none")), items(item("x", "none"), item("x", "none")), 1, api.ErrTwice)
}

// GP1: groups that lead back.
func TestLoops(t *testing.T) {
	isWrong(t, all(one("a", "", "a")), nil, 0, api.ErrLoop)
	isWrong(t, all(one("a", "", ""), one("b", "", "a b")), nil, 1, api.ErrLoop)
	isWrong(t, all(one("a", "", "b"), one("b", "", "a")), nil, 0, api.ErrLoop)
	isWrong(t, all(one("a", "", ""), one("b", "", "c"), one("c", "", "a b")), nil, 1, api.ErrLoop)
	isWrong(t, all(one("a", "", "b"), one("b", "", "c"), one("c", "", "a")), nil, 0, api.ErrLoop)
	isWrong(t, all(one("a", "", "c"), one("b", "", "a"), one("c", "", "b")), nil, 0, api.ErrLoop)
	isWrong(t, all(one("a", "x", "a"), one("b", "x", "")), items(item("x", "a b")), 0, api.ErrLoop)
}

// GP1: one that only leads to a loop, or to which one leads, is not told.
func TestLoopsBesideIt(t *testing.T) {
	isWrong(t, all(one("a", "", "b"), one("b", "", "b")), nil, 1, api.ErrLoop)
	isWrong(t, all(one("a", "", "c"), one("b", "", ""), one("c", "", "d"), one("d", "", "c b")), nil, 2, api.ErrLoop)
	isWrong(t, all(one("a", "", ""), one("b", "", "a c"), one("c", "", "b")), nil, 1, api.ErrLoop)
	isWrong(t, all(one("a", "", "b"), one("b", "", "c"), one("c", "", "d"), one("d", "", "b")), nil, 1, api.ErrLoop)
	isWrong(t, all(one("a", "", "d"), one("b", "", "c"), one("c", "", "b"), one("d", "", "d")), nil, 1, api.ErrLoop)
}

// ring are groups that lead back to one another, from a place on; those ahead lead to the next one.
func ring(n, from int) []group.Group {
	groups := manyGroups(n)
	for i := range groups {
		groups[i].Groups = []string{number(i + 1)}
	}
	groups[n-1].Groups = []string{number(from)}
	return groups
}

// GP1: loops of many.
func TestLoopsOfMany(t *testing.T) {
	for _, from := range []int{0, 1, 63, 64, 500, mostObjects - 2, mostObjects - 1} {
		isWrong(t, ring(mostObjects, from), nil, from, api.ErrLoop)
		groups := ring(mostObjects, from)
		slices.Reverse(groups)
		isWrong(t, groups, nil, 0, api.ErrLoop)
	}
	groups := ring(mostObjects, 0)
	groups[mostObjects-1].Groups = nil
	isFine(t, groups, nil)
}

// GP1: all groups may name all, so often as lists may have names.
func TestLoopsOfAll(t *testing.T) {
	groups := manyGroups(mostObjects)
	for i := range groups {
		groups[i].Groups = slices.Concat(numbers(0, mostObjects), numbers(0, mostObjects), numbers(0, mostObjects), numbers(0, mostObjects))
	}
	isWrong(t, groups, nil, 0, api.ErrLoop)
	groups[0].Groups = nil
	isWrong(t, groups, nil, 1, api.ErrLoop)
}

// GP1: what names nothing, also in an item, comes ahead of loops; so does what is there twice.
func TestAllAheadOfLoops(t *testing.T) {
	isWrong(t, all(one("a", "", "a"), one("b", "none", "")), nil, 1, api.ErrNone)
	isWrong(t, all(one("a", "", "b"), one("b", "", "a none")), nil, 1, api.ErrNone)
	isWrong(t, all(one("a", "", "a"), one("b", "", "")), items(item("x", "b none")), 2, api.ErrNone)
	isWrong(t, all(one("a", "", "a"), one("b", "", ""), one("b", "", "")), nil, 2, api.ErrTwice)
	isWrong(t, all(one("a", "", "a")), named("x x"), 2, api.ErrTwice)
}

// GP1: groups that meet again don't lead back.
func TestMeetAgain(t *testing.T) {
	areMembers(t, all(one("a", "", "b c"), one("b", "", "d"), one("c", "", "d"), one("d", "x", "")), named("x"), "0,0,0,0")
	areMembers(t, all(one("a", "", "b b"), one("b", "x", "")), named("x"), "0,0")
	areMembers(t, all(one("a", "", "b c d"), one("b", "", "c d"), one("c", "", "d"), one("d", "x", "")), named("x"), "0,0,0,0")
	// A ladder, of which each step can be gone in two ways: as many ways as no walk along each of them ends.
	groups := manyGroups(mostObjects)
	for i := 2; i < mostObjects; i++ {
		groups[i].Groups = []string{number(i - 1), number(i - 2)}
	}
	groups[0].Members = []string{"n0"}
	lists, at, err := group.Expand(groups, manyItems(1))
	if at != 0 || err != nil {
		t.Fatalf("%d, %v", at, err)
	}
	for i, members := range lists {
		if (i != 1) != slices.Equal(members, []int{0}) {
			t.Errorf("the group %d: %v", i, members)
		}
	}
}

// GP1: all ways of three groups to have one another.
func TestAllSmallLoops(t *testing.T) {
	names := words("a b c")
	for bits := range 1 << 9 {
		groups := all(one("a", "x", ""), one("b", "y", ""), one("c", "", ""))
		for i := range 9 {
			if bits>>i&1 > 0 {
				groups[i/3].Groups = append(groups[i/3].Groups, names[i%3])
			}
		}
		isPlain(t, groups, items(item("x", ""), item("y", ""), item("z", "c")))
	}
}

// GP1: members come in by each way.
func TestMembers(t *testing.T) {
	three := named("x y z")
	areMembers(t, all(one("a", "x", "")), three, "0")
	areMembers(t, all(one("a", "z x", "")), three, "0 2")
	areMembers(t, all(one("a", "y", ""), one("b", "x z", "")), three, "1,0 2")
	areMembers(t, all(one("a", "", "")), items(item("x", "a"), item("y", ""), item("z", "a")), "0 2")
	areMembers(t, all(one("a", "", ""), one("b", "", "")), items(item("x", "b"), item("y", "b a"), item("z", "a")), "1 2,0 1")
	areMembers(t, all(one("a", "", "b"), one("b", "y", "")), three, "1,1")
	areMembers(t, all(one("b", "y", ""), one("a", "", "b")), three, "1,1")
	areMembers(t, all(one("a", "z", "b c"), one("b", "y", ""), one("c", "", "")), items(item("x", "c"), item("y", ""), item("z", "")), "0 1 2,1,0")
	areMembers(t, all(one("a", "", "b"), one("b", "", "c"), one("c", "y", "")), three, "1,1,1")
	areMembers(t, all(one("c", "x", ""), one("b", "y", "c"), one("a", "z", "b")), three, "0,0 1,0 1 2")
	areMembers(t, all(one("b", "y", "c"), one("a", "z", "b"), one("c", "x", "")), three, "0 1,0 1 2,0")
}

// GP1: what a group is named in doesn't come back to it, and not to those beside it.
func TestMembersDoNotComeDown(t *testing.T) {
	areMembers(t, all(one("a", "x", "b c"), one("b", "y", ""), one("c", "z", "")), named("x y z"), "0 1 2,1,2")
	areMembers(t, all(one("c", "z", ""), one("b", "y", ""), one("a", "x", "b")), items(item("x", ""), item("y", ""), item("z", ""), item("v", "a")), "2,1,0 1 3")
	areMembers(t, all(one("a", "x", "c"), one("b", "y", "c"), one("c", "z", "")), named("x y z"), "0 2,1 2,2")
}

// GP1: an item stands once, by however many ways it comes in.
func TestMembersOnce(t *testing.T) {
	areMembers(t, all(one("a", "x x x", "")), named("x"), "0")
	areMembers(t, all(one("a", "", "")), items(item("x", "a a")), "0")
	areMembers(t, all(one("a", "x", "")), items(item("x", "a")), "0")
	areMembers(t, all(one("a", "x", "b b c"), one("b", "x", "c"), one("c", "x", "")), items(item("x", "c b a c")), "0,0,0")
	areMembers(t, all(one("a", "y x y", "b"), one("b", "x y x", "")), items(item("x", "a"), item("y", "b")), "0 1,0 1")
}

// GP1: members ascend by their places, not by names or by how they are named.
func TestMembersAscend(t *testing.T) {
	areMembers(t, all(one("a", "a b c d", "")), named("d b a c"), "0 1 2 3")
	areMembers(t, all(one("a", "d", "b"), one("b", "c", "c"), one("c", "b", "")), items(item("a", "c"), item("b", ""), item("c", ""), item("d", "")), "0 1 2 3,0 1 2,0 1")
	for _, n := range []int{63, 64, 65, 127, 128, 129, 640, mostObjects} {
		groups := manyGroups(3)
		groups[0].Groups = []string{number(1), number(2)}
		groups[2].Members = numbers(n/2, n)
		groups[1].Members = numbers(0, n/2+1)
		slices.Reverse(groups[1].Members)
		lists, at, err := group.Expand(groups, manyItems(n))
		if at != 0 || err != nil || len(lists) != 3 {
			t.Fatalf("%d: %d lists, %d, %v", n, len(lists), at, err)
		}
		for i, bounds := range [][2]int{{0, n}, {0, n/2 + 1}, {n / 2, n}} {
			var want []int
			for place := bounds[0]; place < bounds[1]; place++ {
				want = append(want, place)
			}
			if !slices.Equal(lists[i], want) {
				t.Errorf("%d items, the group %d: %v", n, i, lists[i])
			}
		}
	}
}

// GP1: each item alone, in each group alone.
func TestEachMember(t *testing.T) {
	groups, items := manyGroups(mostObjects), manyItems(mostObjects)
	for i := range mostObjects {
		groups[i].Members = []string{number(mostObjects - 1 - i)}
	}
	lists, at, err := group.Expand(groups, items)
	if len(lists) != mostObjects || at != 0 || err != nil {
		t.Fatalf("%d lists, %d, %v", len(lists), at, err)
	}
	for i, members := range lists {
		if !slices.Equal(members, []int{mostObjects - 1 - i}) {
			t.Errorf("the group %d: %v", i, members)
		}
	}
}

// GP1: a line of many groups, on and back: each has what those behind it have.
func TestLine(t *testing.T) {
	for _, isTurned := range []bool{false, true} {
		groups, items := manyGroups(mostObjects), manyItems(mostObjects)
		for i := range groups {
			if i%2 == 0 {
				groups[i].Members = []string{number(i)}
			} else {
				items[i].Groups = []string{number(i)}
			}
			if i > 0 {
				groups[i].Groups = []string{number(i - 1)}
			}
		}
		if isTurned {
			slices.Reverse(groups)
		}
		lists, at, err := group.Expand(groups, items)
		if isTurned {
			slices.Reverse(lists)
		}
		if len(lists) != mostObjects || at != 0 || err != nil {
			t.Fatalf("%d lists, %d, %v", len(lists), at, err)
		}
		for i, members := range lists {
			if len(members) != i+1 || !slices.IsSorted(members) || members[0] != 0 || members[i] != i {
				t.Errorf("the group %d: %v", i, members)
			}
		}
	}
}

// GP1: as many names as there may be: each group has all of those ahead of it, and lists are full.
func TestMostNames(t *testing.T) {
	groups, items := manyGroups(mostObjects), manyItems(mostObjects)
	all := numbers(0, mostObjects)
	four := slices.Concat(all, all, all, all)
	for i := range mostObjects {
		groups[i].Members = four
		items[i].Groups = four
		for len(groups[i].Groups) < mostNames && i > 0 {
			groups[i].Groups = append(groups[i].Groups, all[:min(i, mostNames-len(groups[i].Groups))]...)
		}
	}
	lists, at, err := group.Expand(groups, items)
	if len(lists) != mostObjects || at != 0 || err != nil {
		t.Fatalf("%d lists, %d, %v", len(lists), at, err)
	}
	for i, members := range lists {
		if len(members) != mostObjects || members[0] != 0 || members[mostObjects-1] != mostObjects-1 || !slices.IsSorted(members) {
			t.Errorf("the group %d: %d members", i, len(members))
		}
	}
}

// GP1: half of the groups have each of the others, of which each has all items but one.
func TestMostParts(t *testing.T) {
	const half = mostObjects / 2
	groups, items := manyGroups(mostObjects), manyItems(mostObjects)
	for i := range half {
		groups[i].Members = slices.Delete(numbers(0, mostObjects), i, i+1)
		groups[half+i].Groups = numbers(0, half)
	}
	lists, at, err := group.Expand(groups, items)
	if len(lists) != mostObjects || at != 0 || err != nil {
		t.Fatalf("%d lists, %d, %v", len(lists), at, err)
	}
	for i, members := range lists {
		if i < half && (len(members) != mostObjects-1 || slices.Contains(members, i)) || i >= half && len(members) != mostObjects {
			t.Errorf("the group %d: %d members", i, len(members))
		}
	}
}

// GP1: ordinary groups and items, held against the words alone.
func TestOrdinaryIsPlain(t *testing.T) {
	r := rand.New(rand.NewSource(1))
	for range 5000 {
		groups, items := ordinary(r)
		if wrong := isPlain(t, groups, items); wrong != 0 {
			t.Fatalf("%q, %q: error %d", groups, items, int(wrong))
		}
	}
}

// GP1: groups and items of which much may be wrong, held against the words alone.
func TestWildIsPlain(t *testing.T) {
	r := rand.New(rand.NewSource(2))
	counts := map[api.Errno]int{}
	for range 60000 {
		groups, items := wild(r)
		counts[isPlain(t, groups, items)]++
	}
	for _, wrong := range []api.Errno{0, api.ErrTwice, api.ErrNone, api.ErrLoop} {
		if counts[wrong] < 500 {
			t.Errorf("error %d came %d times alone", int(wrong), counts[wrong])
		}
	}
}

// written are groups into whose Members each item's Groups are written, and the items without these.
func written(groups []group.Group, items []group.Item) ([]group.Group, []group.Item) {
	groups, items = copyGroups(groups), copyItems(items)
	for i, one := range items {
		for _, name := range one.Groups {
			g := &groups[plainGroup(groups, name)]
			g.Members = append(g.Members, one.Name)
		}
		items[i].Groups = nil
	}
	return groups, items
}

// isSameWritten asks whether all is the same where items' Groups are written into Members.
func isSameWritten(t *testing.T, groups []group.Group, items []group.Item) {
	t.Helper()
	want, at, err := group.Expand(groups, items)
	if len(want) != len(groups) || at != 0 || err != nil {
		t.Fatalf("%q, %q: %v, %d, %v", groups, items, want, at, err)
	}
	otherGroups, otherItems := written(groups, items)
	if got, at, err := group.Expand(otherGroups, otherItems); !same(got, want) || at != 0 || err != nil {
		t.Fatalf("%q, %q: %v, but %q, %q: %v, %d, %v", groups, items, want, otherGroups, otherItems, got, at, err)
	}
}

// GP2: with each item's Groups written into Members instead, all is the same.
func TestItemsWrittenIntoGroups(t *testing.T) {
	isSameWritten(t, all(one("a", "x", ""), one("b", "", "a")), items(item("x", ""), item("y", "b")))
	isSameWritten(t, all(one("a", "y x", "b"), one("b", "", "c"), one("c", "", "")), items(item("x", "a c"), item("y", "c c"), item("z", "b a")))
	isSameWritten(t, all(one("a", "", ""), one(".", "", "a")), items(item(".", "."), item("a", "a")))
	r := rand.New(rand.NewSource(3))
	for range 5000 {
		groups, items := ordinary(r)
		isSameWritten(t, groups, items)
	}
}

// GP2: a group's members are those of its groups, too.
func TestMembersOfGroups(t *testing.T) {
	r := rand.New(rand.NewSource(4))
	for range 5000 {
		groups, items := ordinary(r)
		lists, _, err := group.Expand(groups, items)
		if err != nil {
			t.Fatalf("%q, %q: %v", groups, items, err)
		}
		for i, g := range groups {
			want := map[int]int{}
			for place, one := range items {
				if slices.Contains(g.Members, one.Name) || slices.Contains(one.Groups, g.Name) {
					want[place]++
				}
			}
			for _, name := range g.Groups {
				for _, place := range lists[plainGroup(groups, name)] {
					want[place]++
				}
			}
			for _, place := range lists[i] {
				if want[place] == 0 {
					t.Fatalf("%q, %q: the group %d has %d", groups, items, i, place)
				}
			}
			if len(want) != len(lists[i]) {
				t.Fatalf("%q, %q: the group %d has %v", groups, items, i, lists[i])
			}
		}
	}
}

// roomy is a list with spare room, in which a text stands.
func roomy(l []string) []string {
	l = append(slices.Clone(l), "spare", "spare", "spare")
	return l[:len(l)-3]
}

// isSpare tells whether that text stands there still.
func isSpare(l []string) bool {
	return slices.Equal(l[len(l):len(l)+3], repeated("spare", 3))
}

// Rule 3: what is handed in is not changed, spare room neither.
func TestHandedInIsNotChanged(t *testing.T) {
	r := rand.New(rand.NewSource(5))
	for i := range 4000 {
		groups, items := ordinary(r)
		if i%2 == 0 {
			groups, items = wild(r)
		}
		for i := range groups {
			groups[i].Members, groups[i].Groups = roomy(groups[i].Members), roomy(groups[i].Groups)
		}
		for i := range items {
			items[i].Groups = roomy(items[i].Groups)
		}
		wholeGroups := append(groups, one("spare", "spare", "spare"))
		wholeItems := append(items, item("spare", "spare"))
		wasGroups, wasItems := copyGroups(wholeGroups), copyItems(wholeItems)
		group.Expand(wholeGroups[:len(groups)], wholeItems[:len(items)])
		if !sameGroups(wholeGroups, wasGroups) || !sameItems(wholeItems, wasItems) {
			t.Fatalf("%q, %q: %q, %q are left", wasGroups, wasItems, wholeGroups, wholeItems)
		}
		for _, g := range groups {
			if !isSpare(g.Members) || !isSpare(g.Groups) {
				t.Fatalf("%q, %q: what lies behind a list was changed", groups, items)
			}
		}
		for _, one := range items {
			if !isSpare(one.Groups) {
				t.Fatalf("%q, %q: what lies behind a list was changed", groups, items)
			}
		}
	}
}

// spoil changes all that lists hold, spare room too.
func spoil(l [][]int) {
	l = l[:cap(l)]
	for i := range l {
		members := l[i][:cap(l[i])]
		for j := range members {
			members[j] = -7
		}
	}
}

// Rule 3: what is answered shares nothing with another answer, with what was handed in, or within itself.
func TestAnswersAreNew(t *testing.T) {
	r := rand.New(rand.NewSource(6))
	for range 3000 {
		groups, items := ordinary(r)
		wasGroups, wasItems := copyGroups(groups), copyItems(items)
		first, _, _ := group.Expand(groups, items)
		second, _, _ := group.Expand(groups, items)
		want := copyOf(first)
		spoil(first)
		for i := range first {
			first[i] = []int{-8}
		}
		third, _, _ := group.Expand(groups, items)
		if !same(second, want) || !same(third, want) || !sameGroups(groups, wasGroups) || !sameItems(items, wasItems) {
			t.Fatalf("%q, %q, after an answer was changed: %v, %v, not %v", wasGroups, wasItems, second, third, want)
		}
		for i := range second {
			spoil(second[i : i+1 : i+1])
			if !same(second[i+1:], want[i+1:]) {
				t.Fatalf("%q, %q, after the list %d was changed: %v, not %v", groups, items, i, second, want)
			}
		}
		for i := range groups {
			clear(groups[i].Members)
			clear(groups[i].Groups)
			groups[i] = one("spoilt", "spoilt", "spoilt")
		}
		for i := range items {
			clear(items[i].Groups)
			items[i] = item("spoilt", "spoilt")
		}
		if !same(third, want) {
			t.Fatalf("%q, %q, after these were changed: %v, not %v", wasGroups, wasItems, third, want)
		}
	}
}

// Rule 3: groups and items whose lists are the same memory have lists of their own.
func TestSharedLists(t *testing.T) {
	list := words("x y z")
	groups := []group.Group{{Name: "a", Members: list}, {Name: "b", Members: list}, {Name: "c", Members: list[:2], Groups: words("a")}}
	for i := range 3 {
		lists, _, err := group.Expand(groups, named("x y z"))
		if err != nil {
			t.Fatal(err)
		}
		want := copyOf(lists)
		_ = append(lists[i], -7)
		spoil(lists[i : i+1 : i+1])
		lists[i] = want[i]
		if !same(lists, want) {
			t.Errorf("after the list %d was changed: %v, not %v", i, lists, want)
		}
	}
}

// Rule 4: an answer hangs on the arguments alone, not on calls ahead of it, nor on a map's order.
func TestAnswersHangOnArgumentsAlone(t *testing.T) {
	r := rand.New(rand.NewSource(7))
	var calls []func() string
	for i := range 600 {
		groups, items := ordinary(r)
		if i%2 == 0 {
			groups, items = wild(r)
		}
		calls = append(calls, func() string {
			lists, at, err := group.Expand(groups, items)
			return fmt.Sprint(lists, at, err)
		})
	}
	var want []string
	for _, call := range calls {
		want = append(want, call())
	}
	for range 5 {
		for _, i := range r.Perm(len(calls)) {
			if got := calls[i](); got != want[i] {
				t.Fatalf("%s, ahead of it %s", got, want[i])
			}
		}
	}
}

// FuzzGroup holds answers against the words alone, with groups and items of any bytes.
func FuzzGroup(f *testing.F) {
	f.Add("a:x:/b::a", "x:/y:b")
	f.Add("a:x x:b c/b::c/c:y:", "x:a/y:c b/:a")
	f.Add("a::b/b::c/c::b/a:z:", "x:/x:d")
	f.Add(":: /::", ":/:")
	f.Fuzz(func(t *testing.T, groupText, itemText string) {
		if len(groupText) > 400 || len(itemText) > 400 {
			return
		}
		var groups []group.Group
		for _, line := range strings.Split(groupText, "/") {
			parts := append(strings.Split(line, ":"), "", "")
			groups = append(groups, one(parts[0], parts[1], parts[2]))
		}
		var items []group.Item
		for _, line := range strings.Split(itemText, "/") {
			parts := append(strings.Split(line, ":"), "")
			items = append(items, item(parts[0], parts[1]))
		}
		isPlain(t, groups, items)
	})
}
