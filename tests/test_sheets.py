import unittest

from stillroom.cells import place_name
from stillroom.cellvalues import sheet_values
from stillroom.filling import fill
from stillroom.grid import new_grid
from stillroom.fonts import lookup, outline, plain_font
from stillroom.outlines import move
from stillroom.runes import runes
from stillroom.sheets import sheet_acts, sheet_pages, words_of
from sheeted import ENOUGH, NONE, error, number, sheet_of, text
from support import check_copies, check_work, drawn

WHITE = 16777215
RED = 16711680
EMPTY = (32, 32, [WHITE] * 1024)

# What painting an empty page costs, and a mark of one outline with four corners on it.
GRID = 1024
MARK = 1 + 4 * 32


def pages_of(**cells):
    return sheet_pages(sheet_of(**cells), ENOUGH)[0]


def rows(grid):
    """A grid as rows of signs, without the white rows and columns behind the last other cell."""
    signs = "".join({WHITE: ".", 0: "#", RED: "R"}[cell] for cell in grid[2])
    found = [signs[at:at + 32].rstrip(".") for at in range(0, 1024, 32)]
    while found and not found[-1]:
        found.pop()
    return found


class Words(unittest.TestCase):
    def test_words(self):
        for value, found in ((number(0), b"0"), (number(-15), b"-15"), (number(10 ** 15), b"1000000000000000"),
                             (NONE, b""), (text("ab \xff"), b"ab \xff"), (text(""), b""), (error("form"), b"#form"),
                             (error("loop"), b"#loop"), (error("kind"), b"#kind"), (error("zero"), b"#zero"),
                             (error("size"), b"#size")):
            self.assertEqual(words_of(value), list(found))

    def test_copies(self):
        check_copies(self, words_of, text("ab"))


class Places(unittest.TestCase):
    """Where cells stand: each one in 8 times 8 cells of its page."""

    def test_no_cells(self):
        self.assertEqual(sheet_pages((), 7), ([], 7))
        self.assertEqual(sheet_pages((), 0), ([], 0))

    def test_one_cell(self):
        # The mark of ! is one box of 4 units in the corner.
        self.assertEqual([rows(page) for page in pages_of(A1="!")], [["#"]])
        self.assertEqual([rows(page) for page in pages_of(B1="!")], [["........#"]])
        self.assertEqual([rows(page) for page in pages_of(D4="!")], [[""] * 24 + ["." * 24 + "#"]])
        self.assertEqual([rows(page) for page in pages_of(E5="!")], [["#"]])
        self.assertEqual([rows(page) for page in pages_of(P32="!")], [[""] * 24 + ["." * 24 + "#"]])

    def test_each_of_the_32_pages(self):
        for down in range(8):
            for right in range(4):
                one, other = place_name((4 * right, 4 * down)), place_name((4 * right + 3, 4 * down + 2))
                self.assertEqual([rows(page) for page in pages_of(**{one: "!", other: "\""})], [
                    ["#"] + [""] * 15 + ["." * 24 + ".#"],
                ])

    def test_their_order(self):
        names = ["A1", "E1", "I1", "M1", "A5", "E5", "I5", "M5"]
        shapes = ["!", "\"", "$", "(", "0", "@"]
        cells = dict(zip(names, shapes))
        found = [rows(page) for page in pages_of(**cells)]
        expected = [rows(pages_of(A1=shape)[0]) for shape in shapes]
        self.assertEqual(found, expected)
        self.assertEqual(len({str(shape) for shape in expected}), 6)

    def test_pages_on_which_all_cells_are_empty(self):
        self.assertEqual(len(pages_of(A1="5", P32="6")), 2)
        self.assertEqual(len(pages_of(A1="5", D4="6")), 1)
        self.assertEqual(len(pages_of(D4="5", E4="6", D5="7")), 3)
        # A cell that is not empty, but has no words, has a page.
        for content in ("=P32", '=""', " ", "  "):
            self.assertEqual(pages_of(A1=content), [EMPTY])

    def test_eight_and_nine(self):
        names = [place_name((4 * (at % 4), 4 * (at // 4))) for at in range(32)]
        for count in (7, 8, 9, 32):
            cells = {name: "!" for name in names[:count]}
            found = sheet_pages(sheet_of(**cells), ENOUGH)
            self.assertEqual([rows(page) for page in found[0]], [["#"]] * min(count, 8))
            # Only the pages that are painted cost, but all values.
            self.assertEqual(ENOUGH - found[1], count + min(count, 8) * (GRID + MARK + 4))
        self.assertEqual(len(pages_of(**{name: "=P32" for name in names[-9:]})), 8)


class Runes(unittest.TestCase):
    def test_no_one_two_and_more_runes(self):
        self.assertEqual(rows(pages_of(A1="!")[0]), ["#"])
        self.assertEqual(rows(pages_of(A1="!\"")[0]), ["#....#"])
        self.assertEqual(rows(pages_of(A1="!\"$$$")[0]), ["#....#"])
        self.assertEqual(rows(pages_of(A1=" \"$")[0]), [".....#"])
        self.assertEqual(rows(pages_of(A1="! \"")[0]), ["#"])

    def test_numbers(self):
        for content, shown in (("7", "7"), ("12345", "12"), ("-5", "-5"), ("=3+4", "7"), ("=0-12", "-1"),
                               ("=999999999999999+1", "10")):
            self.assertEqual(pages_of(A1=content), pages_of(A1=shown + " "))

    def test_errors(self):
        shown = [[cell if cell == WHITE else RED for cell in page[2]] for page in pages_of(A1="#f")]
        self.assertEqual([page[2] for page in pages_of(A1="=")], shown)
        shown = [[cell if cell == WHITE else RED for cell in page[2]] for page in pages_of(A1="#lo")]
        self.assertEqual([page[2] for page in pages_of(A1="=A1")], shown)
        self.assertEqual(pages_of(A1="=A1"), pages_of(A1="=A1+A1"))
        # Both colours on one page.
        self.assertEqual({WHITE, 0, RED}, set(pages_of(A1="=", B1="5")[0][2]))

    def test_bytes_that_are_no_runes(self):
        box = rows(pages_of(A1="\x7f")[0])
        self.assertEqual(box, ["###", "#.#", "#.#", "#.#", "###"])
        twice = ["###.###", "#.#.#.#", "#.#.#.#", "#.#.#.#", "###.###"]
        # A byte that is no rune, a rune of two bytes, and one of three: each has the glyph 0.
        self.assertEqual(rows(pages_of(A1="\xff")[0]), box)
        self.assertEqual(rows(pages_of(A1="\xff\xff\xff")[0]), twice)
        self.assertEqual(rows(pages_of(A1="\xc3\xa4!")[0]), ["###.#", "#.#", "#.#", "#.#", "###"])
        self.assertEqual(rows(pages_of(A1="\xe2\x82\xac")[0]), box)
        self.assertEqual(rows(pages_of(A1="\xc3!!")[0]), ["###.#", "#.#", "#.#", "#.#", "###"])

    def test_drawn_sheets(self):
        source = drawn(75)
        contents = ["5", "-5", "ab", "~}", "=1/0", "=A1", "=A1+B1", "=JOIN(A1:B9)", "=P32", " x", "\xff\xc3\xa4", "="]
        for _ in range(40):
            places = {(source.randint(0, 15), source.randint(0, 31)) for _ in range(source.randint(1, 12))}
            sheet = sheet_of(**{place_name(place): source.choice(contents) for place in places})
            self.assertEqual(sheet_pages(sheet, ENOUGH), plain_pages(sheet))


def plain_pages(sheet):
    """Points 160 and 161, page by page."""
    values, left = sheet_values(sheet, ENOUGH)
    values = dict(values)
    font = plain_font()
    pages = []
    for top in range(0, 32, 4):
        for begin in range(0, 16, 4):
            inside = [(begin + column, top + row) for row in range(4) for column in range(4)]
            if not any(place in values for place in inside) or len(pages) == 8:
                continue
            grid = new_grid(32, 32, WHITE)
            left -= 1024
            for place in [place for place in inside if place in values]:
                x, y = 32 * (place[0] - begin), 32 * (place[1] - top)
                colour = RED if values[place][0] == "error" else 0
                for at, rune in enumerate(runes(words_of(values[place]))[:2]):
                    shapes, left = outline(font, lookup(font, rune), left)
                    if shapes:
                        left -= 1 + 32 * sum(map(len, shapes))
                        grid = fill(grid, (x, y, x + 32, y + 32), move(shapes, x + 16 * at, y), colour)
            pages.append(grid)
    return pages, left


class Costs(unittest.TestCase):
    def check(self, cost, **cells):
        sheet = sheet_of(**cells)
        expected = sheet_pages(sheet, ENOUGH)[0]
        return check_work(self, lambda left: sheet_pages(sheet, left), cost, expected)

    def test_finding_the_values(self):
        self.assertEqual(sheet_pages(sheet_of(A1="5", A2="=1+2"), 4), ([], 0))
        self.assertEqual(sheet_pages(sheet_of(A1="5", A2="=1+2"), 5), ([], 0))

    def test_a_page_without_marks(self):
        self.assertEqual(self.check(1 + GRID, A1=" "), ([], 0))
        self.assertEqual(self.check(2 + GRID, A1="=P32"), ([], 0))

    def test_a_page_with_marks(self):
        self.assertEqual(self.check(1 + 4 + GRID + MARK, A1="!"), ([], 0))
        # A has two boxes.
        self.assertEqual(self.check(1 + 4 + GRID + MARK + 8 + 1 + 8 * 32, A1="!A"), ([], 0))
        # Runes behind the second one cost nothing.
        self.assertEqual(self.check(1 + 8 + GRID + 2 * MARK, A1="!!AAA"), ([], 0))

    def test_every_amount_of_work(self):
        # Whatever it is that costs too much, a page is there as a whole or not at all.
        sheet = sheet_of(A1="!!", B1="!", E1="5", M32=" ")
        pages, left = sheet_pages(sheet, ENOUGH)
        one = 4 + 12 + GRID + 3 * MARK
        five = sum(map(len, outline(plain_font(), 53 - 32, ENOUGH)[0]))
        ends = [one, one + GRID + five + 1 + 32 * five]
        ends.append(ends[-1] + GRID)
        self.assertEqual(ENOUGH - left, ends[-1])
        for work in range(ends[-1]):
            count = len([end for end in ends if end <= work])
            self.assertEqual(sheet_pages(sheet, work), (pages[:count], 0), work)
        self.assertEqual(sheet_pages(sheet, ends[-1] + 3), (pages, 3))

    def test_copies(self):
        check_copies(self, sheet_pages, sheet_of(A1="5", B1="=A1"), ENOUGH)


class Acts(unittest.TestCase):
    def check(self, cost, *acts, **cells):
        sheet = sheet_of(**cells)
        return check_work(self, lambda left: sheet_acts(sheet, left), cost, list(acts))

    def test_no_acts(self):
        self.assertEqual(sheet_acts((), 0), ([], 0))
        self.check(3, A1="5", B1="LINK(\"a\")", C1="=SUM(1)")
        self.check(1, A1="=LINK(\"a\"")

    def test_acts(self):
        self.check(2, ("link", (97,)), A1='=LINK("a")')
        self.check(2, ("fetch", (97, 98)), A1='=FETCH("ab")')
        self.check(2, ("link", ()), A1='=LINK("")')

    def test_in_order(self):
        cells = dict(B1='=FETCH("b")', A2='=LINK("c")', A1='=LINK("a")', P32='=FETCH("d")')
        self.check(8, ("link", (97,)), ("fetch", (98,)), ("link", (99,)), ("fetch", (100,)), **cells)

    def test_within_other_calls(self):
        self.check(4, ("link", (97,)), ("fetch", (98,)), ("link", (99,)), A1='=JOIN(LINK("a"),FETCH("b"))=-LINK("c")')
        self.check(4, ("link", (98,)), ("link", (97,)), ("fetch", (99,)),
                   A1='=IF(LINK("b")="x",SUM(1,(LINK("a"))),FETCH("c"))')

    def test_the_same_one_twice(self):
        self.check(3, ("link", (97,)), ("link", (97,)), A1='=LINK("a")=LINK("a")')

    def test_those_that_are_not_needed(self):
        self.check(2, ("link", (97,)), A1='=IF(1,2,LINK("a"))')
        self.check(2, ("link", (97,)), A1='=A1+LINK("a")')
        self.check(2, ("fetch", (97,)), A1='=1/0+FETCH("a")')

    def test_every_amount_of_work(self):
        sheet = sheet_of(A1="5", B1='=JOIN(LINK("a"),LINK("b"))', C1="6", D1='=FETCH("c")', E1="7")
        acts = [("link", (97,)), ("link", (98,)), ("fetch", (99,))]
        # 1, then 1 with 2 acts, 1, then 1 with 1 act, 1.
        for work, count, left in ((0, 0, 0), (1, 0, 0), (2, 0, 0), (3, 1, 0), (4, 2, 0), (5, 2, 0), (6, 2, 0),
                                  (7, 3, 0), (8, 3, 0), (9, 3, 1), (20, 3, 12)):
            self.assertEqual(sheet_acts(sheet, work), (acts[:count], left))

    def test_copies(self):
        check_copies(self, sheet_acts, sheet_of(A1='=LINK("a")'), 100)

if __name__ == "__main__":
    unittest.main()
