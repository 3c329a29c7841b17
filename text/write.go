package text

import (
	"strconv"

	"cells/grid"
	"cells/rule"
	"cells/shape"
)

// Write gives the text of a world.
func Write(r rule.Rule, s shape.Shape, age int, g *grid.Grid) string {
	head := ruleText(r) + " " + shapeText(s) + " " + strconv.Itoa(age)
	box := g.Live()
	if box.Empty {
		return head + " 0,0 !"
	}
	place := strconv.Itoa(box.Left) + "," + strconv.Itoa(box.Top)
	return head + " " + place + " " + bodyText(g, box) + "!"
}

func ruleText(r rule.Rule) string {
	text := string([]byte{r.Around}) + "B" + setText(r.Births) + "/S" + setText(r.Survivals)
	if r.States > 2 {
		text += "/" + strconv.Itoa(r.States)
	}
	return text
}

func setText(set rule.Set) string {
	text := ""
	for i := 0; i < len(set); i++ {
		if set[i] {
			text += strconv.Itoa(i)
		}
	}
	return text
}

func shapeText(s shape.Shape) string {
	width := strconv.Itoa(s.Width) + behindSide(s.WidthShift, s.WidthStar)
	height := strconv.Itoa(s.Height) + behindSide(s.HeightShift, s.HeightStar)
	return string([]byte{s.Kind}) + width + "," + height
}

func behindSide(shift int, star bool) string {
	if star {
		return "*"
	}
	if shift != 0 {
		return "+" + strconv.Itoa(shift)
	}
	return ""
}

// bodyText writes the rows of the box. A row's breaks are written when the next row with a live cell comes, so that they make one run.
func bodyText(g *grid.Grid, box grid.Box) string {
	text := ""
	breaks := 0
	for y := box.Top; y <= box.Bottom; y++ {
		row := rowText(g, box, y)
		if row != "" {
			text += runText(breaks, '$') + row
			breaks = 0
		}
		breaks++
	}
	return text
}

// rowText writes a row from the box's first column to the row's last live cell. A run is written when a live cell comes behind it, so that dead cells at the end are not.
func rowText(g *grid.Grid, box grid.Box, y int) string {
	text := ""
	state := 0
	count := 0
	for x := box.Left; x <= box.Right; x++ {
		here := g.Get(x, y)
		if here != state {
			text += runText(count, stateLetter(state))
			state = here
			count = 0
		}
		count++
	}
	if state != 0 {
		text += runText(count, stateLetter(state))
	}
	return text
}

// runText writes a run. None is longer than MaxRun: a grid has at most MaxRoom columns or rows.
func runText(count int, mark byte) string {
	if count == 0 {
		return ""
	}
	letter := string([]byte{mark})
	if count == 1 {
		return letter
	}
	return strconv.Itoa(count) + letter
}
