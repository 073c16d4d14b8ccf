package able

import (
	"strings"
	"testing"

	"postern/api"
)

var order = []api.Able{api.Get, api.Put, api.Take, api.Give, api.Ask, api.Cut}

func list(it func(func(api.Able) bool)) []api.Able {
	var l []api.Able
	for a := range it {
		l = append(l, a)
	}
	return l
}

func same(a, b []api.Able) bool {
	if len(a) != len(b) {
		return false
	}
	for i := range a {
		if a[i] != b[i] {
			return false
		}
	}
	return true
}

func TestP1_1MayOneCount(t *testing.T) {
	for a := 0; a < 256; a++ {
		n := 0
		for _, one := range order {
			if api.Able(a)&one != 0 {
				n++
			}
		}
		set := api.Able(a)
		if May(set) != (a < 64) || Count(set) != n || One(set) != (a < 64 && n == 1) {
			t.Error(a, May(set), Count(set), One(set))
		}
	}
	if One(4) != true || One(5) || One(0) || One(68) || Count(69) != 2 {
		t.Error("the examples")
	}
}

func TestP1_2Sets(t *testing.T) {
	if Meet() != 63 || Meet(7, 13) != 5 || Join() != 0 || Join(1, 64) != 1 || Less(7, 5) != 2 || !Has(5, 4) || Has(4, 5) {
		t.Error("the examples")
	}
	if Meet(255, 255) != 63 || Join(255) != 63 || Less(255, 1) != 62 || !Has(63, 255) || !Has(0, 64) || Meet(64) != 0 {
		t.Error("bits beyond the six count")
	}
}

func TestP1_3Walks(t *testing.T) {
	if !same(list(Each(5)), []api.Able{1, 4}) || !same(list(Within(5)), []api.Able{0, 1, 4, 5}) {
		t.Error(list(Each(5)), list(Within(5)))
	}
	if len(list(Each(0))) != 0 || !same(list(Within(0)), []api.Able{0}) || !same(list(Within(64)), []api.Able{0}) {
		t.Error("walks of none")
	}
	if !same(list(Each(255)), order) || len(list(Within(255))) != 64 {
		t.Error("walks of all")
	}
	w := Within(63)
	for a := range w {
		if a == 2 {
			break
		}
	}
	if len(list(w)) != 64 {
		t.Error("a walk that was left early is not gone over again")
	}
}

func TestP1_4Texts(t *testing.T) {
	for i, a := range order {
		if k, e := Place(a); k != i || e != api.OK {
			t.Error(a, k, e)
		}
	}
	for _, a := range []api.Able{0, 3, 63, 64, 65, 255} {
		if k, e := Place(a); k != 0 || e != api.ErrArg {
			t.Error(a, k, e)
		}
	}
	for a, want := range map[api.Able]string{0: "-", 1: "get", 5: "get+take", 63: "get+put+take+give+ask+cut"} {
		if s, e := Text(a); s != want || e != api.OK {
			t.Error(a, s, e)
		}
	}
	for _, a := range []api.Able{64, 128, 255} {
		if s, e := Text(a); s != "" || e != api.ErrArg {
			t.Error(a, s, e)
		}
	}
	for _, s := range []string{"", "take+get", "get+get", "Get", "get+", "+get", "get take", " get", "--", "-+get", "get+-", strings.Repeat("get+", 1000)} {
		if a, e := Read(s); a != 0 || e != api.ErrAble {
			t.Error(s, a, e)
		}
	}
	if a, e := Read("-"); a != 0 || e != api.OK {
		t.Error(a, e)
	}
}

func TestP1_5Lattice(t *testing.T) {
	for a := api.Able(0); a < 64; a++ {
		if Meet(a, a) != a || Join(a, a) != a || Less(api.All, Less(api.All, a)) != a {
			t.Error(a)
		}
		want := Less(api.All, a)
		if Meet(a, want) != api.None || Join(a, want) != api.All {
			t.Error(a, want)
		}
		for b := api.Able(0); b < 64; b++ {
			pair(t, a, b)
			for c := api.Able(0); c < 64; c += 7 {
				triple(t, a, b, c)
			}
		}
	}
}

func pair(t *testing.T, a, b api.Able) {
	if Meet(a, b) != Meet(b, a) || Join(a, b) != Join(b, a) || Meet(a, Join(a, b)) != a || Join(a, Meet(a, b)) != a {
		t.Error(a, b)
	}
	if Less(api.All, Meet(a, b)) != Join(Less(api.All, a), Less(api.All, b)) {
		t.Error(a, b)
	}
	has := Has(a, b)
	if has != (Meet(a, b) == b) || has != (Join(a, b) == a) || has != (Less(b, a) == api.None) {
		t.Error(a, b, has)
	}
}

func triple(t *testing.T, a, b, c api.Able) {
	if Meet(a, b, c) != Meet(Meet(c, a), b) || Join(a, b, c) != Join(b, Join(c, a)) {
		t.Error(a, b, c)
	}
	if Meet(a, Join(b, c)) != Join(Meet(a, b), Meet(a, c)) || Join(a, Meet(b, c)) != Meet(Join(a, b), Join(a, c)) {
		t.Error(a, b, c)
	}
}

func TestP1_6WithinAndTexts(t *testing.T) {
	for a := api.Able(0); a < 64; a++ {
		l := list(Within(a))
		if len(l) != 1<<Count(a) || l[0] != api.None || l[len(l)-1] != a {
			t.Error(a, l)
		}
		told := map[api.Able]int{}
		for i, b := range l {
			told[b]++
			if i > 0 && l[i-1] >= b {
				t.Error("does not rise", a, l)
			}
		}
		for b := api.Able(0); b < 64; b++ {
			if (told[b] == 1) != Has(a, b) {
				t.Error(a, b)
			}
		}
		if Join(list(Each(a))...) != a {
			t.Error(a)
		}
		for one := range Each(a) {
			if !One(one) {
				t.Error(a, one)
			}
		}
		s, _ := Text(a)
		if b, e := Read(s); b != a || e != api.OK {
			t.Error(a, s, b, e)
		}
	}
}
