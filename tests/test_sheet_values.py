import unittest

from stillroom.cells import place_name
from stillroom.cellvalues import content_value, sheet_values, tree_value
from stillroom.formulas import used_places
from sheeted import ENOUGH, NONE, content, error, number, sheet_of, text
from support import check_copies, check_work, drawn

LOOP = error("loop")


def values_of(**cells):
    """The values of a sheet by their names."""
    found, _ = sheet_values(sheet_of(**cells), ENOUGH)
    return {place_name(place): value for place, value in found}


class Values(unittest.TestCase):
    def check(self, cells, **values):
        self.assertEqual(values_of(**cells), values)

    def test_no_cells(self):
        self.assertEqual(sheet_values((), 7), ((), 7))
        self.assertEqual(sheet_values((), 0), ((), 0))

    def test_in_order(self):
        sheet = sheet_of(B2="=A1", A1="5", P32="x", B1="=")
        found, _ = sheet_values(sheet, ENOUGH)
        self.assertEqual(found,
                         (((0, 0), number(5)), ((1, 0), error("form")), ((1, 1), number(5)), ((15, 31), text("x"))))

    def test_plain_contents(self):
        self.check(dict(A1="5", B1="-0", C1="abc", D1="="), A1=number(5), B1=text("-0"), C1=text("abc"),
                   D1=error("form"))

    def test_formulas(self):
        self.check(dict(A1="5", A2="=A1+1", A3="=A2*A1", A4="=Z"), A1=number(5), A2=number(6), A3=number(30),
                   A4=error("form"))
        self.check(dict(A1="=B1", B1="=C1", C1="=D1", D1="7"), A1=number(7), B1=number(7), C1=number(7), D1=number(7))
        self.check(dict(A1="=P32"), A1=NONE)
        self.check(dict(A1="=P32", B1="=A1+1", C1='=A1="x"', D1="=JOIN(A1:C1)"),
                   A1=NONE, B1=number(1), C1=number(0), D1=text("10"))

    def test_errors_go_on(self):
        self.check(dict(A1="=1/0", A2="=A1+1", A3="=SUM(A1:A2)", A4="=IF(1,2,A1)"),
                   A1=error("zero"), A2=error("zero"), A3=error("zero"), A4=number(2))

    def test_a_long_chain(self):
        # Each of 512 cells uses the next one.
        places = [(column, row) for row in range(32) for column in range(16)]
        cells = {place_name(one): f"={place_name(other)}+1" for one, other in zip(places, places[1:])}
        found = values_of(**cells, P32="1")
        self.assertEqual([found[place_name(place)] for place in places], [number(512 - at) for at in range(512)])
        found = values_of(**cells, P32="=A1")
        self.assertEqual(set(found.values()), {LOOP})

    def test_copies(self):
        check_copies(self, sheet_values, sheet_of(A1="5", A2="=A1", A3="=A3"), 1000)


class Rings(unittest.TestCase):
    def check(self, loops, **cells):
        """Those cells, and no other ones, have the error loop."""
        found = values_of(**cells)
        self.assertEqual(sorted(name for name in found if found[name] == LOOP), sorted(loops.split()))

    def test_directly(self):
        self.check("A1", A1="=A1")
        self.check("A1", A1="=A1+1", B1="5", C1="=B1")
        self.check("A1", A1="=-A1")

    def test_by_others(self):
        self.check("A1 B1", A1="=B1", B1="=A1")
        self.check("A1 B1 C1", A1="=B1", B1="=C1", C1="=A1", D1="=E1", E1="5")

    def test_by_a_range(self):
        self.check("A1", A1="=SUM(A1:B2)")
        self.check("B2", A1="1", B2="=COUNT(C3:A1)")
        self.check("A1 B2", A1="=B2", B2="=JOIN(A1:A9)")

    def test_in_an_argument_that_is_not_looked_at(self):
        self.check("A1", A1="=IF(1,2,A1)")
        self.check("A1", A1="=IF(0,SUM(A1:B2),2)")
        self.check("A1 B1", A1="=IF(1,2,B1)", B1="=IF(1,2,A1)")

    def test_behind_errors(self):
        self.check("A1", A1="=1/0+A1")

    def test_cells_that_lead_to_a_ring(self):
        self.check("A1 B1 C1 D1", A1="=B1", B1="=B1", C1="=A1+1", D1="=IF(1,2,C1)", E1="5", F1="=E1")
        self.check("A1 B1 C1", A1="=SUM(B1:C1)", B1="=C1", C1="=B1")

    def test_cells_within_a_ring_that_use_others(self):
        self.check("A1 B1", A1="=B1+C1", B1="=A1+D1", C1="=D1", D1="5")

    def test_two_rings(self):
        self.check("A1 B1 C1 D1 E1", A1="=B1", B1="=A1", C1="=D1", D1="=C1", E1="=SUM(A1:D1)", F1="5")

    def test_no_rings(self):
        self.check("", A1="=B1+B1", B1="=C1", C1="5", D1="=SUM(A1:C1)", E1="=SUM(A1:D1)")
        # Cells that are empty, no formulas, or broken formulas use nothing.
        self.check("", A1="=B1", B1="A1", C1="=A1 C1", D1="=E1", F1="=")

    def test_drawn_sheets(self):
        source = drawn(74)
        names = [column + row for row in "123" for column in "ABC"]
        for _ in range(1500):
            cells = {name: self.drawn_content(source, names) for name in source.sample(names, source.randint(1, 9))}
            sheet = sheet_of(**cells)
            self.assertEqual(sheet_values(sheet, ENOUGH)[0], plain_values(sheet), cells)

    def drawn_content(self, source, names):
        one, other = source.choice(names), source.choice(names)
        return source.choice((
            "5", "x", "=", f"={one}", f"={one}", f"={one}+{other}", f"=SUM({one}:{other})", f"=IF({one},{other},1)",
            f"=JOIN({one},{other})", f"={one}<{other}", "=1/0",
        ))


def plain_values(sheet):
    """Points 157 and 158, cell by cell."""
    found = {place: content_value(data) for place, data in sheet}
    uses = {place: used_places(value[1]) for place, value in found.items() if value[0] == "formula"}

    def reached(place):
        seen, waiting = set(), list(uses.get(place, []))
        while waiting:
            other = waiting.pop()
            if other not in seen:
                seen.add(other)
                waiting += uses.get(other, [])
        return seen

    rings = {place for place in uses if place in reached(place)}

    def value_of(place):
        value = found.get(place, NONE)
        if value[0] != "formula":
            return value
        if place in rings or rings & reached(place):
            return LOOP
        return tree_value(value[1], {other: value_of(other) for other in uses[place]})

    return tuple((place, value_of(place)) for place, _ in sheet)


class Costs(unittest.TestCase):
    def check(self, cost, **cells):
        sheet = sheet_of(**cells)
        expected = sheet_values(sheet, ENOUGH)[0]
        self.assertIsNotNone(expected)
        below = check_work(self, lambda left: sheet_values(sheet, left), cost, expected)
        self.assertEqual(below, (None, 0))
        self.assertEqual(sheet_values(sheet, 0), (None, 0))

    def test_plain_contents(self):
        self.check(1, A1="5")
        self.check(3, A1="5", B1="abc", P32="-0")

    def test_formulas(self):
        self.check(2, A1="=1")
        self.check(4, A1="=1+2")
        self.check(2, A1="=((1))")
        self.check(1 + 2 + 1, A1="=-B1", B1="5")
        self.check(1 + 6, A1="=IF(1,2,3+4)")
        self.check(1 + 2, A1='=LINK("a")')

    def test_no_formula(self):
        self.check(1, A1="=")
        self.check(1, A1="=1+")

    def test_ranges(self):
        self.check(1 + 2 + 1, A1="=SUM(B1:B1)")
        self.check(1 + 2 + 4, A1="=SUM(B1:C2)")
        self.check(1 + 2 + 4, A1="=SUM(C2:B1)")
        self.check(1 + 2 + 512, P32="=SUM(A1:P32)")
        # Each range costs by itself, also those that tell the same cells.
        self.check(1 + 3 + 8, A1="=SUM(B1:C2,C1:B2)")
        self.check(1 + 5 + 2 + 3, A1="=SUM(B1:B2)+MIN(C1:C3)")

    def test_what_is_not_needed_costs_too(self):
        self.check(1 + 5 + 9, A1="=IF(1,2,SUM(B1:D3))")
        self.check(2, A1="=A1")

    def test_several_cells(self):
        self.check(1 + (1 + 3) + (1 + 2 + 2) + 1, A1="5", B1="=A1+1", A2="=SUM(A1:B1)", B2="x")


if __name__ == "__main__":
    unittest.main()
