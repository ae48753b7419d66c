import unittest

from stillroom.pages import lay_out
from layouts import (
    ENOUGH, PAGE_BOX, act, acts_of, book, book_with, box_mark, check_costs, marks_of, pages_of, sealed, sealed_mark,
)

TOP = 1048576


def box(blocks, more=""):
    return f"<</Kind /Box /Blocks [{blocks}] {more}>>"


BOX = "<</Kind /Box /Blocks [{}]>>"
TABLE = "<</Kind /Table /Rows [[<</Blocks [{}]>>]]>>"


def nested(levels, inner, form=BOX, first=10):
    """Some blocks within so many boxes: the tuple (text of the body, text of the objects).
    Each box is an object of its own, so that the values stay flat."""
    if levels == 0:
        return inner, ""
    body, objects = nested(levels - 1, inner, form, first + 1)
    return f"@{first}", f"#{first} {form.replace('{}', body)}\n{objects}"


class Columns(unittest.TestCase):
    def test_one_below_the_other(self):
        marks = marks_of(sealed(1, 2) + sealed(2, 1) + "<</Kind /Other>>" + sealed())
        self.assertEqual(marks, [sealed_mark(0, 0, 1, 2), sealed_mark(0, 8, 2, 1), sealed_mark(0, 12)])

    def test_items_that_are_no_dicts(self):
        body = f"none {sealed()} 5 (a) /Sealed [{sealed()}] <</Kind /Sealed>>{{1}}a{{}} @99 @2 true {sealed()}"
        marks = marks_of(body, objects="#2 " + sealed())
        self.assertEqual(marks, [sealed_mark(0, 0), sealed_mark(0, 4), sealed_mark(0, 8)])
        check_costs(self, book_with(body, objects="#2 " + sealed()), 2 + 11 + 3)

    def test_blocks_of_no_kind_and_of_an_unknown_one(self):
        for kind in ("", "/Kind none", "/Kind /", "/Kind /Foo", "/Kind (Sealed)", "/Kind /text", "/Kind 5", "/Kind @1"):
            block = f"<<{kind} /Text (a) /Blocks [{sealed()}] /Width 1 /From (a) /Send (a) /Gap 5>>"
            self.assertEqual(marks_of(block + sealed()), [sealed_mark(0, 0)])
            self.assertEqual(acts_of(block), [])
            check_costs(self, book_with(block + block), 2 + 2 + 2)

    def test_styles_of_blocks(self):
        root = "/Styles <</A <</Align /Right>> /B <</Align /Middle>> / <</Align /Right>>>>"
        objects = "#2 <<>>{12}\x89IMG\r\n\1\1\0\0\1\0\0\0\0{}"
        objects = objects.replace("{12}", "{15}")
        for style, x in (("/Style /A", 60), ("/Style /B", 30), ("/Style (A)", 60), ("", 60), ("/Style /C", 0)):
            marks = marks_of(f"<</Kind /Picture /Data @2 {style}>>", root=root, objects=objects)
            self.assertEqual([mark[3] for mark in marks], [(x, 0, x + 4, 4)])


class Levels(unittest.TestCase):
    def marks(self, levels, inner, form=BOX):
        body, objects = nested(levels, inner, form)
        return marks_of(body, objects=objects)

    def acts(self, levels, inner):
        body, objects = nested(levels, inner)
        return acts_of(body, objects=objects)

    def check_costs(self, levels, inner, cost):
        body, objects = nested(levels, inner)
        check_costs(self, book_with(body, objects=objects), cost)

    def test_level_8_and_9(self):
        # The box on level n holds blocks on level n + 1.
        self.assertEqual(self.marks(7, sealed()), [sealed_mark(0, 0)])
        self.assertEqual(self.marks(8, sealed()), [])
        self.assertEqual(self.acts(7, "<</Kind /Script /Text (a)>>"), [act("script", "a")])
        self.assertEqual(self.acts(8, "<</Kind /Script /Text (a)>>"), [])

    def test_costs_of_level_9(self):
        self.check_costs(7, sealed(), 2 + 8 * 2)
        self.check_costs(8, sealed() + sealed() + "5", 2 + 8 * 2 + 3 + 2)
        # What is in such a block is not reached.
        self.check_costs(8, box(sealed() * 5), 2 + 8 * 2 + 2)
        self.check_costs(12, sealed(), 2 + 8 * 2 + 2)

    def test_level_9_has_no_height(self):
        body, objects = nested(8, sealed(1, 5))
        self.assertEqual(marks_of(body + sealed(), objects=objects), [sealed_mark(0, 0)])

    def test_a_ring(self):
        found = book_with("@2", objects=f"#2 {box(sealed() + '@2')}")
        pages, left = lay_out(found, ENOUGH)
        self.assertEqual(list(pages[0][3]), [sealed_mark(0, 4 * at) for at in range(7)])
        # Eight boxes with two items each; those of the last one are nothing but their costs.
        self.assertEqual(ENOUGH - left, 2 + 1 + 1 + 8 * 2 + 8 * 2)

    def test_cells_are_one_level_higher_too(self):
        self.assertEqual(self.marks(7, sealed(), TABLE), [sealed_mark(0, 0)])
        self.assertEqual(self.marks(8, sealed(), TABLE), [])
        mixed = "<</Kind /Table /Rows [[<</Blocks [<</Kind /Box /Blocks [{}]>>]>>]]>>"
        self.assertEqual(self.marks(3, sealed(), mixed), [sealed_mark(0, 0)])
        self.assertEqual(self.marks(4, sealed(), mixed), [])


class Heights(unittest.TestCase):
    """Heights at and above 1048576."""

    # The box 2 is 4096 units high, 3 is 65536, and 4 is 1048576 high; 7 is 4 less than that.
    objects = (
        f"#2 {box(sealed(1, 64) * 16)} #3 {box('@2' * 16)} #4 {box('@3' * 16)}"
        f"#5 {box(sealed(1, 64) * 15 + sealed(1, 63))} #6 {box('@2' * 15 + '@5')} #7 {box('@3' * 15 + '@6')}"
    )

    def last(self, body):
        return marks_of(body, objects=self.objects)[-1]

    def test_at_the_bound(self):
        self.assertEqual(self.last("@4" + sealed()), sealed_mark(0, TOP))
        self.assertEqual(self.last("@7" + sealed()), sealed_mark(0, TOP - 4))

    def test_above_it(self):
        self.assertEqual(self.last("@4" + sealed() + sealed()), sealed_mark(0, TOP))
        self.assertEqual(self.last("@4" + sealed(1, 64) * 5 + sealed()), sealed_mark(0, TOP))
        self.assertEqual(self.last("@7" + sealed(1, 3) + sealed()), sealed_mark(0, TOP))

    def test_boxes_above_it(self):
        # A box ends below its column, also beyond the bound; its pads count for that.
        marks = marks_of("@4" + box(sealed(), "/Pad 2 /Back 5") + sealed(), objects=self.objects)
        self.assertEqual(marks[-3:], [
            box_mark(0, TOP, 64, TOP + 12, 5), sealed_mark(8, TOP), sealed_mark(0, TOP),
        ])
        marks = marks_of("@4" + box("", "/Pad 2 /Back 5"), objects=self.objects)
        self.assertEqual(marks[-1], box_mark(0, TOP, 64, TOP + 16, 5))

    def test_rows_above_it(self):
        row = f"[<</Back 5 /Blocks [{sealed(1, 2)}]>>]"
        marks = marks_of(f"@7 <</Kind /Table /Rows [{row}{row}]>>" + sealed(), objects=self.objects)
        self.assertEqual(marks[-5:], [
            box_mark(0, TOP - 4, 64, TOP + 4, 5), sealed_mark(0, TOP - 4, 1, 2),
            box_mark(0, TOP, 64, TOP + 8, 5), sealed_mark(0, TOP, 1, 2), sealed_mark(0, TOP),
        ])


class Boxes(unittest.TestCase):
    def test_pads(self):
        for pad, inside in (("", 0), ("/Pad 0", 0), ("/Pad 1", 4), ("/Pad 16", 64), ("/Pad 17", 64), ("/Pad -1", 0),
                            ("/Pad (1)", 0), ("/Pad none", 0), ("/Pad @2", 12)):
            marks = marks_of(box(sealed(1, 2), pad) + sealed(), objects="#2 3")
            self.assertEqual(marks, [sealed_mark(inside, inside, 1, 2), sealed_mark(0, 2 * inside + 8)])

    def test_what_is_between_the_pads(self):
        # An inner box with a back shows how wide the column is.
        for pad, x0, x1 in ((0, 0, 64), (1, 4, 60), (7, 28, 36), (8, 32, 36), (9, 36, 40), (16, 64, 68)):
            marks = marks_of(box(box(sealed(), "/Back 3"), f"/Pad {pad}"))
            self.assertEqual(marks, [box_mark(x0, x0, x1, x0 + 4, 3), sealed_mark(x0, x0)])

    def test_narrower_than_its_pads_twice(self):
        marks = marks_of(box(box(box(sealed(), "/Back 3"), "/Pad 2"), "/Pad 8"))
        self.assertEqual(marks, [box_mark(40, 40, 44, 44, 3), sealed_mark(40, 40)])

    def test_backs(self):
        for back in (0, 3, 16777215):
            marks = marks_of(box(sealed(1, 3), f"/Back {back} /Pad 1"))
            self.assertEqual(marks, [box_mark(0, 0, 64, 20, back), sealed_mark(4, 4, 1, 3)])
        for back in ("", "/Back -1", "/Back 16777216", "/Back none", "/Back (3)"):
            self.assertEqual(marks_of(box(sealed(), back)), [sealed_mark(0, 0)])

    def test_around_no_block(self):
        for blocks in ("/Blocks []", "", "/Blocks 5", "/Blocks [5 none]"):
            marks = marks_of(f"<</Kind /Box {blocks} /Back 3 /Pad 2>>" + sealed())
            self.assertEqual(marks, [box_mark(0, 0, 64, 16, 3), sealed_mark(0, 16)])
            marks = marks_of(f"<</Kind /Box {blocks} /Back 3>>" + sealed())
            self.assertEqual(marks, [box_mark(0, 0, 64, 0, 3), sealed_mark(0, 0)])

    def test_several_blocks(self):
        marks = marks_of(sealed() + box(sealed(1, 2) + "5" + sealed(2, 1), "/Pad 1 /Back 9") + sealed())
        self.assertEqual(marks, [
            sealed_mark(0, 0), box_mark(0, 4, 64, 24, 9), sealed_mark(4, 8, 1, 2), sealed_mark(4, 16, 2, 1),
            sealed_mark(0, 24),
        ])

    def test_a_box_in_a_box(self):
        marks = marks_of(box(box(sealed(), "/Pad 1 /Back 2") + sealed(), "/Pad 2 /Back 1"))
        self.assertEqual(marks, [
            box_mark(0, 0, 64, 32, 1), box_mark(8, 8, 56, 20, 2), sealed_mark(12, 12), sealed_mark(8, 20),
        ])

    def test_acts(self):
        script = "<</Kind /Script /Text ({})>>"
        body = script.format("a") + box(script.format("b") + script.format("c"), "/Back 1") + script.format("d")
        self.assertEqual(acts_of(body), [act("script", letter) for letter in "abcd"])

    def test_costs(self):
        check_costs(self, book_with(box("5 " + sealed(), "/Back 1 /Pad 1")), 2 + 1 + 1 + 2 + 1)
        check_costs(self, book_with(box("")), 2 + 1 + 1)
        check_costs(self, book_with("<</Kind /Box>>"), 2 + 1 + 1)


def table(rows, columns="", more=""):
    return f"<</Kind /Table /Columns [{columns}] /Rows [{rows}] {more}>>"


def cell(blocks="", more=""):
    return f"<</Blocks [{blocks}] {more}>>"


def back(colour, more=""):
    return f"<</Back {colour} {more}>>"


class Tables(unittest.TestCase):
    def test_one_column(self):
        for columns in ("/Columns []", "", "/Columns 5", "/Columns none", "/Columns (5)"):
            marks = marks_of(f"<</Kind /Table {columns} /Rows [[{back(3)}]]>>" + sealed())
            self.assertEqual(marks, [box_mark(0, 0, 64, 4, 3), sealed_mark(0, 4)])

    def test_widths(self):
        for width, cells in (("1", 1), ("64", 64), ("0", 1), ("-5", 1), ("65", 64), ("2147483647", 64), ("none", 4),
                             ("(5)", 4), ("true", 4), ("@2", 7), ("@99", 4), ("[5]", 4), ("/5", 4)):
            marks = marks_of(table(f"[{back(1)} {back(2)}]", f"{width} 3"), objects="#2 7")
            end = 4 * cells
            self.assertEqual(marks, [box_mark(0, 0, end, 4, 1), box_mark(end, 0, end + 12, 4, 2)])

    def test_16_and_17_columns(self):
        for count in (15, 16, 17, 40):
            marks = marks_of(table(f"[{''.join(back(at) for at in range(count))}]", "1 " * count))
            found = min(count, 16)
            self.assertEqual(marks, [box_mark(4 * at, 0, 4 * at + 4, 4, at) for at in range(found)])

    def test_within_a_box(self):
        marks = marks_of(box(table(f"[{back(1)}]") + table(f"[{back(2)}]", "3"), "/Pad 2"))
        self.assertEqual(marks, [box_mark(8, 8, 56, 12, 1), box_mark(8, 12, 20, 16, 2)])

    def test_rows_that_are_no_lists(self):
        row = f"[{back(1)}]"
        body = table(f"5 {row} none (a) {back(2)} <<>>{{1}}a{{}} @2 @99", "1") + sealed()
        marks = marks_of(body, objects=f"#2 [{back(3)}]")
        self.assertEqual(marks, [box_mark(0, 0, 4, 4, 1), box_mark(0, 4, 4, 8, 3), sealed_mark(0, 8)])
        check_costs(self, book_with(body, objects=f"#2 [{back(3)}]"), 2 + 2 + 2 + 1 + 8 + 2 * 3)

    def test_no_rows(self):
        for rows in ("/Rows []", "", "/Rows 5", "/Rows [5 none]"):
            self.assertEqual(marks_of(f"<</Kind /Table /Columns [1] {rows}>>" + sealed()), [sealed_mark(0, 0)])

    def test_an_empty_row(self):
        self.assertEqual(marks_of(table("[]") + sealed()), [sealed_mark(0, 4)])
        self.assertEqual(marks_of(table("[] []") + sealed()), [sealed_mark(0, 8)])

    def test_spans(self):
        for span, last in (("", 1), ("/Span 1", 1), ("/Span 2", 3), ("/Span 3", 6), ("/Span 4", 6), ("/Span 16", 6),
                           ("/Span 17", 6), ("/Span 0", 1), ("/Span -3", 1), ("/Span (2)", 1), ("/Span none", 1)):
            marks = marks_of(table(f"[{back(1, span)}]", "1 2 3"))
            self.assertEqual(marks, [box_mark(0, 0, 4 * last, 4, 1)])

    def test_a_span_of_16(self):
        for span, count in ((15, 15), (16, 16), (17, 16)):
            marks = marks_of(table(f"[{back(1, f'/Span {span}')}]", "1 " * 16))
            self.assertEqual(marks, [box_mark(0, 0, 4 * count, 4, 1)])

    def test_the_first_free_column(self):
        marks = marks_of(table(f"[{back(1, '/Span 2')}{back(2)}{back(3, '/Span 9')}]", "1 2 3 4 5"))
        self.assertEqual(marks, [box_mark(0, 0, 12, 4, 1), box_mark(12, 0, 24, 4, 2), box_mark(24, 0, 60, 4, 3)])

    def test_cells_behind_the_last_column(self):
        script = "<</Kind /Script /Text (a)>>"
        row = f"[{back(1)}{back(2, f'/Span 5 /Blocks [{script}]')}{back(3, f'/Blocks [{script}{sealed(1, 9)}]')} 5]"
        body = table(row, "1 1") + sealed()
        self.assertEqual(marks_of(body), [box_mark(0, 0, 4, 4, 1), box_mark(4, 0, 8, 4, 2), sealed_mark(0, 4)])
        self.assertEqual(acts_of(body), [act("script", "a")])
        # They cost 1, and their blocks are not reached.
        check_costs(self, book_with(body), 2 + 2 + 2 + 2 + 1 + 1 + 4 + 4 + 1 + 1)

    def test_cells_that_are_no_dicts(self):
        # They take a column; a stream also has its keys, but no column of blocks.
        row = f"[5 none {back(1)} (a) [{back(2)}] @99]"
        self.assertEqual(marks_of(table(row, "1 1 1 1 1 1 1")), [box_mark(8, 0, 12, 4, 1)])
        stream = f"<</Back 3 /Span 2 /Blocks [{sealed()}]>>{{1}}a{{}}"
        marks = marks_of(table(f"[{stream}{back(1)}]", "1 1 1"))
        self.assertEqual(marks, [box_mark(0, 0, 8, 4, 3), box_mark(8, 0, 12, 4, 1)])
        check_costs(self, book_with(table(f"[{stream}{back(1)}]", "1 1 1")), 2 + 1 + 1 + 3 + 1 + 1 + 2 + 2)

    def test_cells_behind_references(self):
        marks = marks_of(table("[@2 @3]", "1 1"), objects=f"#2 @3 #3 {back(1, '/Blocks @4')} #4 [@5] #5 {sealed()}")
        self.assertEqual(marks, [
            box_mark(0, 0, 4, 4, 1), sealed_mark(0, 0), box_mark(4, 0, 8, 4, 1), sealed_mark(4, 0),
        ])

    def test_where_cells_stand(self):
        row = f"[{cell(sealed() + sealed(1, 2))}{cell(box(sealed(), '/Back 4'), '/Span 2')}]"
        marks = marks_of(sealed() + table(row, "3 2 1"))
        self.assertEqual(marks, [
            sealed_mark(0, 0), sealed_mark(0, 4), sealed_mark(0, 8, 1, 2), box_mark(12, 4, 24, 8, 4),
            sealed_mark(12, 4),
        ])

    def test_heights_of_rows(self):
        low, high = cell(sealed(1, 1), "/Back 1"), cell(sealed(1, 3), "/Back 2")
        empty = back(3)
        marks = marks_of(table(f"[{low}{high}{empty}] [{empty}] [{high}]", "1 1 1") + sealed())
        self.assertEqual(marks, [
            box_mark(0, 0, 4, 12, 1), sealed_mark(0, 0), box_mark(4, 0, 8, 12, 2), sealed_mark(4, 0, 1, 3),
            box_mark(8, 0, 12, 12, 3), box_mark(0, 12, 4, 16, 3), box_mark(0, 16, 4, 28, 2),
            sealed_mark(0, 16, 1, 3), sealed_mark(0, 28),
        ])

    def test_a_row_is_at_least_4_units_high(self):
        objects = "#2 <</Kind /Box /Blocks []>>"
        marks = marks_of(table(f"[{cell('@2', '/Back 1')}]", "1") + sealed(), objects=objects)
        self.assertEqual(marks, [box_mark(0, 0, 4, 4, 1), sealed_mark(0, 4)])

    def test_backs(self):
        for colour in ("-1", "16777216", "none", "(1)", "@99"):
            self.assertEqual(marks_of(table(f"[{back(colour, f'/Blocks [{sealed()}]')}]")), [sealed_mark(0, 0)])

    def test_acts(self):
        script = "<</Kind /Script /Text ({})>>"
        a, b, c, d = [script.format(letter) for letter in "abcd"]
        rows = f"[{cell(a + b)}{cell(c)}] [{cell(d)}]"
        self.assertEqual(acts_of(table(rows, "1 1")), [act("script", letter) for letter in "abcd"])

    def test_costs(self):
        rows = f"[{cell(sealed())} 5] 7 [{cell(sealed() + '5')}]"
        # Columns, rows; then the first row with its two cells, and the second one.
        cost = 2 + 1 + 1 + 3 + 3 + (1 + 2 + 1 + 1 + 1 + 1) + (1 + 1 + 1 + 2 + 1)
        check_costs(self, book_with(table(rows, "1 none 3")), cost)
        # Items behind the 16th column cost, too.
        check_costs(self, book_with(table("", "1 " * 20)), 2 + 1 + 1 + 20)

    def test_the_later_pages(self):
        page = f"<</Width 16 /Height 16 /Body [{table(f'[{cell(sealed())}]', '1')}]>>"
        found = book(f"#1 <</Pages [{page * 3}]>>")
        cost = 1 + 1 + 1 + 1 + 1 + 1 + 1 + 1 + 1 + 1
        check_costs(self, found, 3 + cost, cost, cost)
        self.assertEqual([page[3] for page in pages_of(found)], [(sealed_mark(0, 0),)] * 3)
        self.assertEqual(pages_of(found)[2][3][0][1], PAGE_BOX)


if __name__ == "__main__":
    unittest.main()
