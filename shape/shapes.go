package shape

import "postern/api"

// The shapes: for each set of abilities a struct that embeds just these, and the thing itself.
type (
	shape00 struct{ isThing }
	shape01 struct {
		isThing
		canGet
	}
	shape02 struct {
		isThing
		canPut
	}
	shape03 struct {
		isThing
		canGet
		canPut
	}
	shape04 struct {
		isThing
		canTake
	}
	shape05 struct {
		isThing
		canGet
		canTake
	}
	shape06 struct {
		isThing
		canPut
		canTake
	}
	shape07 struct {
		isThing
		canGet
		canPut
		canTake
	}
	shape08 struct {
		isThing
		canGive
	}
	shape09 struct {
		isThing
		canGet
		canGive
	}
	shape10 struct {
		isThing
		canPut
		canGive
	}
	shape11 struct {
		isThing
		canGet
		canPut
		canGive
	}
	shape12 struct {
		isThing
		canTake
		canGive
	}
	shape13 struct {
		isThing
		canGet
		canTake
		canGive
	}
	shape14 struct {
		isThing
		canPut
		canTake
		canGive
	}
	shape15 struct {
		isThing
		canGet
		canPut
		canTake
		canGive
	}
	shape16 struct {
		isThing
		canAsk
	}
	shape17 struct {
		isThing
		canGet
		canAsk
	}
	shape18 struct {
		isThing
		canPut
		canAsk
	}
	shape19 struct {
		isThing
		canGet
		canPut
		canAsk
	}
	shape20 struct {
		isThing
		canTake
		canAsk
	}
	shape21 struct {
		isThing
		canGet
		canTake
		canAsk
	}
	shape22 struct {
		isThing
		canPut
		canTake
		canAsk
	}
	shape23 struct {
		isThing
		canGet
		canPut
		canTake
		canAsk
	}
	shape24 struct {
		isThing
		canGive
		canAsk
	}
	shape25 struct {
		isThing
		canGet
		canGive
		canAsk
	}
	shape26 struct {
		isThing
		canPut
		canGive
		canAsk
	}
	shape27 struct {
		isThing
		canGet
		canPut
		canGive
		canAsk
	}
	shape28 struct {
		isThing
		canTake
		canGive
		canAsk
	}
	shape29 struct {
		isThing
		canGet
		canTake
		canGive
		canAsk
	}
	shape30 struct {
		isThing
		canPut
		canTake
		canGive
		canAsk
	}
	shape31 struct {
		isThing
		canGet
		canPut
		canTake
		canGive
		canAsk
	}
	shape32 struct {
		isThing
		canCut
	}
	shape33 struct {
		isThing
		canGet
		canCut
	}
	shape34 struct {
		isThing
		canPut
		canCut
	}
	shape35 struct {
		isThing
		canGet
		canPut
		canCut
	}
	shape36 struct {
		isThing
		canTake
		canCut
	}
	shape37 struct {
		isThing
		canGet
		canTake
		canCut
	}
	shape38 struct {
		isThing
		canPut
		canTake
		canCut
	}
	shape39 struct {
		isThing
		canGet
		canPut
		canTake
		canCut
	}
	shape40 struct {
		isThing
		canGive
		canCut
	}
	shape41 struct {
		isThing
		canGet
		canGive
		canCut
	}
	shape42 struct {
		isThing
		canPut
		canGive
		canCut
	}
	shape43 struct {
		isThing
		canGet
		canPut
		canGive
		canCut
	}
	shape44 struct {
		isThing
		canTake
		canGive
		canCut
	}
	shape45 struct {
		isThing
		canGet
		canTake
		canGive
		canCut
	}
	shape46 struct {
		isThing
		canPut
		canTake
		canGive
		canCut
	}
	shape47 struct {
		isThing
		canGet
		canPut
		canTake
		canGive
		canCut
	}
	shape48 struct {
		isThing
		canAsk
		canCut
	}
	shape49 struct {
		isThing
		canGet
		canAsk
		canCut
	}
	shape50 struct {
		isThing
		canPut
		canAsk
		canCut
	}
	shape51 struct {
		isThing
		canGet
		canPut
		canAsk
		canCut
	}
	shape52 struct {
		isThing
		canTake
		canAsk
		canCut
	}
	shape53 struct {
		isThing
		canGet
		canTake
		canAsk
		canCut
	}
	shape54 struct {
		isThing
		canPut
		canTake
		canAsk
		canCut
	}
	shape55 struct {
		isThing
		canGet
		canPut
		canTake
		canAsk
		canCut
	}
	shape56 struct {
		isThing
		canGive
		canAsk
		canCut
	}
	shape57 struct {
		isThing
		canGet
		canGive
		canAsk
		canCut
	}
	shape58 struct {
		isThing
		canPut
		canGive
		canAsk
		canCut
	}
	shape59 struct {
		isThing
		canGet
		canPut
		canGive
		canAsk
		canCut
	}
	shape60 struct {
		isThing
		canTake
		canGive
		canAsk
		canCut
	}
	shape61 struct {
		isThing
		canGet
		canTake
		canGive
		canAsk
		canCut
	}
	shape62 struct {
		isThing
		canPut
		canTake
		canGive
		canAsk
		canCut
	}
	shape63 struct {
		isThing
		canGet
		canPut
		canTake
		canGive
		canAsk
		canCut
	}
)

// shaped makes the thing of a set that may be: which shape it is hangs on the set alone.
func shaped(s seat, set api.Able) api.Thing {
	switch set >> sixteenth {
	case 0:
		return shaped0(s, set)
	case 1:
		return shaped1(s, set)
	case 2:
		return shaped2(s, set)
	}
	return shaped3(s, set)
}

// sixteenth is where a set's upper two bits stand: the shapes go by sixteen.
const sixteenth = 4

func shaped0(s seat, set api.Able) api.Thing {
	switch set {
	case 0:
		return shape00{isThing{s}}
	case 1:
		return shape01{isThing{s}, canGet{s}}
	case 2:
		return shape02{isThing{s}, canPut{s}}
	case 3:
		return shape03{isThing{s}, canGet{s}, canPut{s}}
	case 4:
		return shape04{isThing{s}, canTake{s}}
	case 5:
		return shape05{isThing{s}, canGet{s}, canTake{s}}
	case 6:
		return shape06{isThing{s}, canPut{s}, canTake{s}}
	case 7:
		return shape07{isThing{s}, canGet{s}, canPut{s}, canTake{s}}
	case 8:
		return shape08{isThing{s}, canGive{s}}
	case 9:
		return shape09{isThing{s}, canGet{s}, canGive{s}}
	case 10:
		return shape10{isThing{s}, canPut{s}, canGive{s}}
	case 11:
		return shape11{isThing{s}, canGet{s}, canPut{s}, canGive{s}}
	case 12:
		return shape12{isThing{s}, canTake{s}, canGive{s}}
	case 13:
		return shape13{isThing{s}, canGet{s}, canTake{s}, canGive{s}}
	case 14:
		return shape14{isThing{s}, canPut{s}, canTake{s}, canGive{s}}
	}
	return shape15{isThing{s}, canGet{s}, canPut{s}, canTake{s}, canGive{s}}
}

func shaped1(s seat, set api.Able) api.Thing {
	switch set {
	case 16:
		return shape16{isThing{s}, canAsk{s}}
	case 17:
		return shape17{isThing{s}, canGet{s}, canAsk{s}}
	case 18:
		return shape18{isThing{s}, canPut{s}, canAsk{s}}
	case 19:
		return shape19{isThing{s}, canGet{s}, canPut{s}, canAsk{s}}
	case 20:
		return shape20{isThing{s}, canTake{s}, canAsk{s}}
	case 21:
		return shape21{isThing{s}, canGet{s}, canTake{s}, canAsk{s}}
	case 22:
		return shape22{isThing{s}, canPut{s}, canTake{s}, canAsk{s}}
	case 23:
		return shape23{isThing{s}, canGet{s}, canPut{s}, canTake{s}, canAsk{s}}
	case 24:
		return shape24{isThing{s}, canGive{s}, canAsk{s}}
	case 25:
		return shape25{isThing{s}, canGet{s}, canGive{s}, canAsk{s}}
	case 26:
		return shape26{isThing{s}, canPut{s}, canGive{s}, canAsk{s}}
	case 27:
		return shape27{isThing{s}, canGet{s}, canPut{s}, canGive{s}, canAsk{s}}
	case 28:
		return shape28{isThing{s}, canTake{s}, canGive{s}, canAsk{s}}
	case 29:
		return shape29{isThing{s}, canGet{s}, canTake{s}, canGive{s}, canAsk{s}}
	case 30:
		return shape30{isThing{s}, canPut{s}, canTake{s}, canGive{s}, canAsk{s}}
	}
	return shape31{isThing{s}, canGet{s}, canPut{s}, canTake{s}, canGive{s}, canAsk{s}}
}

func shaped2(s seat, set api.Able) api.Thing {
	switch set {
	case 32:
		return shape32{isThing{s}, canCut{s}}
	case 33:
		return shape33{isThing{s}, canGet{s}, canCut{s}}
	case 34:
		return shape34{isThing{s}, canPut{s}, canCut{s}}
	case 35:
		return shape35{isThing{s}, canGet{s}, canPut{s}, canCut{s}}
	case 36:
		return shape36{isThing{s}, canTake{s}, canCut{s}}
	case 37:
		return shape37{isThing{s}, canGet{s}, canTake{s}, canCut{s}}
	case 38:
		return shape38{isThing{s}, canPut{s}, canTake{s}, canCut{s}}
	case 39:
		return shape39{isThing{s}, canGet{s}, canPut{s}, canTake{s}, canCut{s}}
	case 40:
		return shape40{isThing{s}, canGive{s}, canCut{s}}
	case 41:
		return shape41{isThing{s}, canGet{s}, canGive{s}, canCut{s}}
	case 42:
		return shape42{isThing{s}, canPut{s}, canGive{s}, canCut{s}}
	case 43:
		return shape43{isThing{s}, canGet{s}, canPut{s}, canGive{s}, canCut{s}}
	case 44:
		return shape44{isThing{s}, canTake{s}, canGive{s}, canCut{s}}
	case 45:
		return shape45{isThing{s}, canGet{s}, canTake{s}, canGive{s}, canCut{s}}
	case 46:
		return shape46{isThing{s}, canPut{s}, canTake{s}, canGive{s}, canCut{s}}
	}
	return shape47{isThing{s}, canGet{s}, canPut{s}, canTake{s}, canGive{s}, canCut{s}}
}

func shaped3(s seat, set api.Able) api.Thing {
	switch set {
	case 48:
		return shape48{isThing{s}, canAsk{s}, canCut{s}}
	case 49:
		return shape49{isThing{s}, canGet{s}, canAsk{s}, canCut{s}}
	case 50:
		return shape50{isThing{s}, canPut{s}, canAsk{s}, canCut{s}}
	case 51:
		return shape51{isThing{s}, canGet{s}, canPut{s}, canAsk{s}, canCut{s}}
	case 52:
		return shape52{isThing{s}, canTake{s}, canAsk{s}, canCut{s}}
	case 53:
		return shape53{isThing{s}, canGet{s}, canTake{s}, canAsk{s}, canCut{s}}
	case 54:
		return shape54{isThing{s}, canPut{s}, canTake{s}, canAsk{s}, canCut{s}}
	case 55:
		return shape55{isThing{s}, canGet{s}, canPut{s}, canTake{s}, canAsk{s}, canCut{s}}
	case 56:
		return shape56{isThing{s}, canGive{s}, canAsk{s}, canCut{s}}
	case 57:
		return shape57{isThing{s}, canGet{s}, canGive{s}, canAsk{s}, canCut{s}}
	case 58:
		return shape58{isThing{s}, canPut{s}, canGive{s}, canAsk{s}, canCut{s}}
	case 59:
		return shape59{isThing{s}, canGet{s}, canPut{s}, canGive{s}, canAsk{s}, canCut{s}}
	case 60:
		return shape60{isThing{s}, canTake{s}, canGive{s}, canAsk{s}, canCut{s}}
	case 61:
		return shape61{isThing{s}, canGet{s}, canTake{s}, canGive{s}, canAsk{s}, canCut{s}}
	case 62:
		return shape62{isThing{s}, canPut{s}, canTake{s}, canGive{s}, canAsk{s}, canCut{s}}
	}
	return shape63{isThing{s}, canGet{s}, canPut{s}, canTake{s}, canGive{s}, canAsk{s}, canCut{s}}
}
