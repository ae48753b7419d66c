import unittest

from stillroom.filling import curve
from stillroom.pages import lay_out
from layouts import (
    BASE, ENOUGH, PAGE_BOX, book, book_with, check_costs, marks_of, pages_of, sealed, sealed_mark,
)

FAR = 1048576
CLIP = (0, 0, 32, 32)


def drawing(parts, more=""):
    return f"<</Kind /Drawing /Parts [{parts}] {more}>>"


def shape(path="", more=""):
    return f"<</Path [{path}] {more}>>"


def shape_marks(parts, root="", objects=""):
    """The marks of a drawing at the beginning of a page."""
    return marks_of(drawing(parts), root=root, objects=objects)


def mark(*outlines, colour=0, clip=CLIP):
    return "fill", clip, tuple(tuple(points) for points in outlines), colour


class Drawings(unittest.TestCase):
    point = shape("/M 0 0")

    def test_sides(self):
        for side, cells in (("", 8), ("3", 3), ("1", 1), ("0", 1), ("-4", 1), ("none", 8), ("(3)", 8), ("@2", 5)):
            found = marks_of(drawing(self.point, f"/Width {side} /Height {side}") + sealed(), objects="#2 5")
            clip = (0, 0, 4 * cells, 4 * cells)
            self.assertEqual(found, [mark([(0, 0)], clip=clip), sealed_mark(0, 4 * cells)])
        for side, cells in ((63, 63), (64, 64), (65, 64)):
            page = f"<</Width 64 /Height 64 /Body [{drawing(self.point, f'/Width {side} /Height {side}')} {sealed()}]>>"
            found = pages_of(book(f"#1 <</Pages [{page}]>>"))[0][3]
            self.assertEqual(found[0], mark([(0, 0)], clip=(0, 0, 4 * cells, 4 * cells)))
            self.assertEqual(found[1], sealed_mark(0, 4 * cells, clip=(0, 0, 256, 256)))
        found = marks_of(drawing(self.point, "/Width 3 /Height 5") + sealed())
        self.assertEqual(found, [mark([(0, 0)], clip=(0, 0, 12, 20)), sealed_mark(0, 20)])

    def test_no_parts(self):
        for parts in ("/Parts []", "", "/Parts 5", "/Parts none", "/Parts <</Path [/M 1 1]>>", "/Path [/M 1 1]"):
            self.assertEqual(marks_of(f"<</Kind /Drawing {parts}>>" + sealed()), [sealed_mark(0, 32)])

    def test_clips_that_reach_beyond_the_page(self):
        for width, found in ((16, 64), (17, 64), (64, 64), (15, 60)):
            self.assertEqual(marks_of(drawing(self.point, f"/Width {width} /Height 1")), [
                mark([(0, 0)], clip=(0, 0, found, 4)),
            ])
            self.assertEqual(marks_of(drawing(self.point, f"/Width 1 /Height {width}")), [
                mark([(0, 0)], clip=(0, 0, 4, found)),
            ])

    def test_below_the_page(self):
        above = sealed(1, 14)
        for y, low, high in ((0, 56, 64), (4, 60, 64), (8, 64, 64), (60, 64, 64)):
            body = above + (sealed(1, y // 4) if y else "") + drawing(self.point, "/Height 9")
            self.assertEqual(marks_of(body)[-1], mark([(0, 56 + y)], clip=(0, low, 32, high)))

    def test_right_of_the_page(self):
        for pad, x in ((1, 4), (15, 60), (16, 64)):
            body = f"<</Kind /Box /Pad {pad} /Blocks [{drawing(self.point)}]>>"
            clip = (x, x, min(x + 32, 64), min(x + 32, 64))
            self.assertEqual(marks_of(body), [mark([(x, x)], clip=clip)])
        boxes = f"<</Kind /Box /Pad 16 /Blocks [<</Kind /Box /Pad 16 /Blocks [{drawing(self.point)}]>>]>>"
        self.assertEqual(marks_of(boxes), [mark([(128, 128)], clip=(64, 64, 64, 64))])

    def test_the_page_counts(self):
        found = book(f"#1 <</Pages [<</Width 5 /Height 3 /Body [{drawing(self.point)}]>>]>>")
        self.assertEqual(pages_of(found)[0][3], (mark([(0, 0)], clip=(0, 0, 20, 12)),))

    def test_its_style_and_other_keys_mean_nothing(self):
        root = "/Styles <</S <</Align /Right /Indent 3 /Gap 9 /Back 5>>>>"
        more = "/Style /S /Dx 5 /Dy 5 /Scale 8 /Use /A /Path [/M 1 1] /Color 7"
        self.assertEqual(marks_of(drawing(self.point, more) + sealed(), root=root), [
            mark([(0, 0)]), sealed_mark(0, 32),
        ])

    def test_costs(self):
        check_costs(self, book_with(drawing("")), BASE)
        check_costs(self, book_with("<</Kind /Drawing>>"), BASE)
        check_costs(self, book_with(drawing("5 none []")), BASE + 3)


class Shapes(unittest.TestCase):
    def test_shapes_that_are_no_dicts(self):
        parts = f"none {shape('/M 1 1')} 5 [{shape('/M 2 2')}] /A (a) <</Path [/M 3 3]>>{{1}}a{{}} @2 @99 @3"
        objects = f"#2 {shape('/M 4 4')} #3 @3"
        self.assertEqual(shape_marks(parts, objects=objects), [mark([(1, 1)]), mark([(4, 4)])])
        # The list has ten items, and two of them are shapes with three items and one point.
        check_costs(self, book_with(drawing(parts, ), objects=objects), BASE + 10 + 2 * (1 + 3 + 1))

    def test_colours(self):
        for colour, found in (("0", 0), ("16777215", 16777215), ("-1", 0), ("16777216", 0), ("none", 0), ("@2", 7)):
            marks = shape_marks(shape("/M 1 1", f"/Color {colour}"), objects="#2 7")
            self.assertEqual(marks, [mark([(1, 1)], colour=found)])

    def test_no_path(self):
        for path in ("/Path []", "", "/Path 5", "/Path none", "/Path /M", "/Path (M)"):
            self.assertEqual(shape_marks(f"<<{path} /Color 5>>"), [])
            check_costs(self, book_with(drawing(f"<<{path}>>")), BASE + 1 + 1)

    def test_their_order(self):
        inner = shape("/M 3 3") + shape("/M 4 4", f"/Parts [{shape('/M 5 5')}]")
        parts = shape("/M 1 1", f"/Parts [{inner}] /Use /A") + shape("/M 6 6")
        root = f"/Shapes <</A {shape('/M 2 2')}>>"
        self.assertEqual(shape_marks(parts, root=root), [mark([(at, at)]) for at in range(1, 7)])

    def test_parts_without_a_path(self):
        self.assertEqual(shape_marks(f"<</Parts [{shape('/M 1 1')}] /Color 5>>"), [mark([(1, 1)])])
        for parts in ("5", "none", "(a)", shape("/M 1 1"), "@99"):
            self.assertEqual(shape_marks(f"<</Parts {parts}>>"), [])


class Paths(unittest.TestCase):
    def check(self, path, *outlines, objects=""):
        """The outlines of a path, and what it costs: its items and its points."""
        expected = [mark(*outlines)] if outlines else []
        self.assertEqual(shape_marks(shape(path), objects=objects), expected)
        many = len(book(f"#1 [{path}]")[0][0][1][1])
        found = book_with(drawing(shape(path)), objects=objects)
        check_costs(self, found, BASE + 1 + 1 + many + sum(map(len, outlines)))

    def test_moves_and_lines(self):
        self.check("/M 1 2", [(1, 2)])
        self.check("/M 1 2 /L 3 4 /L -5 -6", [(1, 2), (3, 4), (-5, -6)])
        self.check("/M 1 2 /M 3 4", [(1, 2)], [(3, 4)])
        self.check("/M 1 2 /L 3 4 /M 5 6 /L 7 8", [(1, 2), (3, 4)], [(5, 6), (7, 8)])

    def test_curves(self):
        first = curve((1, 2), (30, 4), (5, 60))
        self.check("/M 1 2 /Q 30 4 5 60", [(1, 2)] + first)
        self.check("/M 1 2 /Q 30 4 5 60 /L 1 1", [(1, 2)] + first + [(1, 1)])
        self.check("/M 1 2 /Q 30 4 5 60 /Q 9 9 0 0", [(1, 2)] + first + curve((5, 60), (9, 9), (0, 0)))
        self.check("/M 9 9 /M 1 2 /L 5 5 /Q 30 4 5 60", [(9, 9)], [(1, 2), (5, 5)] + curve((5, 5), (30, 4), (5, 60)))

    def test_broken_off(self):
        for end in ("/M", "/M 5", "/L", "/L 5", "/Q", "/Q 5", "/Q 5 6", "/Q 5 6 7"):
            self.check("/M 1 2 /L 3 4 " + end, [(1, 2), (3, 4)])
        for path in ("/M", "/M 5", "/L 5 6", "/Q 5 6 7 8", "5 6", "/M 5 none"):
            self.check(path)

    def test_items_that_are_no_integers(self):
        # The list ends there, whatever stands behind.
        for wrong in ("none", "(5)", "/M", "/L", "true", "[5]", "<<>>", "@99", "@2"):
            for end in ("/M {} 5", "/M 5 {}", "/L {} 5", "/L 5 {}", "/Q {} 6 7 8", "/Q 5 {} 7 8", "/Q 5 6 {} 8",
                        "/Q 5 6 7 {}"):
                path = "/M 1 2 /L 3 4 " + end.format(wrong) + " /M 7 7 /L 8 8"
                self.check(path, [(1, 2), (3, 4)], objects="#2 @2")

    def test_before_the_first_move(self):
        self.check("/L 5 6 /M 1 2", [(1, 2)])
        self.check("/Q 5 6 7 8 /L 5 /M 1 2 /L 3 4", [(1, 2), (3, 4)])
        # Only the name itself is skipped, and so it cannot be broken off.
        self.check("/L /M 1 2", [(1, 2)])
        self.check("/Q (a) none /M 1 2", [(1, 2)])

    def test_items_that_are_none_of_the_names(self):
        self.check("5 /M 1 2 6 7 /L 3 4 8", [(1, 2), (3, 4)])
        self.check("/X none (M) /M 1 2 /m 5 5 [/L] /MM /L 3 4 / /Z", [(1, 2), (3, 4)])
        self.check("(M) 1 2 <</M 1>> true")

    def test_references(self):
        self.check("@2 @3 @4 @5 @3 @3", [(1, 7), (1, 1)], objects="#2 /M #3 1 #4 @6 #5 /L #6 7")

    def test_coordinates_beyond_the_bounds(self):
        self.check(f"/M {FAR} {-FAR} /L {FAR + 1} {-FAR - 1}", [(FAR, -FAR), (FAR, -FAR)])
        self.check("/M 2147483647 -2147483647", [(FAR, -FAR)])
        points = curve((0, 0), (FAR, -FAR), (FAR, -FAR))
        self.check("/M 0 0 /Q 99999999 -99999999 99999999 -99999999", [(0, 0)] + points)

    def test_a_point_costs_1_and_a_curve_8(self):
        check_costs(self, book_with(drawing(shape("/M 1 1 /L 2 2 /Q 1 2 3 4 /L 5"))), BASE + 1 + 1 + 13 + 10)


class Changes(unittest.TestCase):
    """Moving and scaling."""

    def points(self, parts, above="", root="", objects=""):
        marks = marks_of(above + drawing(parts), root=root, objects=objects)
        return [found[2][0][0] for found in marks if found[3] == 0]

    def test_moves(self):
        for more, point in (("/Dx 5", (6, 2)), ("/Dy 5", (1, 7)), ("/Dx -5 /Dy -7", (-4, -5)),
                            ("/Dx none /Dy (5)", (1, 2)), ("/Dx @2", (10, 2)),
                            (f"/Dx {FAR} /Dy {-FAR}", (FAR + 1, 2 - FAR)),
                            (f"/Dx {FAR + 1} /Dy {-FAR - 1}", (FAR + 1, 2 - FAR))):
            self.assertEqual(self.points(shape("/M 1 2", more), objects="#2 9"), [point])

    def test_scales(self):
        for scale, n in (("1", 1), ("4", 4), ("64", 64), ("0", 1), ("-3", 1), ("65", 64), ("none", 4), ("(8)", 4),
                         ("7", 7)):
            point = (13 * n // 4, -13 * n // 4)
            self.assertEqual(self.points(shape("/M 13 -13", f"/Scale {scale}")), [point])

    def test_scaled_before_it_is_moved(self):
        self.assertEqual(self.points(shape("/M 3 5", "/Scale 8 /Dx 1 /Dy 2")), [(7, 12)])

    def test_the_place_of_the_drawing(self):
        body = f"<</Kind /Box /Pad 1 /Blocks [{sealed()} {drawing(shape('/M 3 5', '/Scale 8 /Dx 1'))}]>>"
        self.assertEqual(marks_of(body)[-1][2], (((11, 18),),))

    def test_inner_shapes_first(self):
        inner = shape("/M 3 5", "/Scale 2 /Dx 10 /Dy 20")
        outer = f"<</Scale 3 /Dx 100 /Dy 200 /Path [/M 3 5] /Parts [{inner}]>>"
        # 3 * 2 / 4 + 10 = 11, 11 * 3 / 4 + 100 = 108; each quotient is rounded down by itself.
        self.assertEqual(self.points(outer), [(3 * 3 // 4 + 100, 5 * 3 // 4 + 200), (108, 200 + 22 * 3 // 4)])

    def test_three_levels(self):
        text = shape("/M 7 -7", "/Scale 3 /Dx 1")
        for _ in range(2):
            text = f"<</Scale 3 /Dx 1 /Parts [{text}]>>"
        x, y = 7, -7
        for _ in range(3):
            x, y = x * 3 // 4 + 1, y * 3 // 4
        self.assertEqual(self.points(text), [(x, y)])

    def test_a_shape_behind_another_one(self):
        # What changes a shape changes neither the next one nor the one around.
        parts = f"<</Scale 8 /Dx 5 /Parts [{shape('/M 1 1')}]>> {shape('/M 1 1')}"
        self.assertEqual(self.points(parts), [(7, 2), (1, 1)])

    def test_used_shapes(self):
        root = f"/Shapes <</A {shape('/M 3 5', '/Scale 2 /Dx 10')}>>"
        outer = "<</Scale 3 /Dx 100 /Use /A>>"
        self.assertEqual(self.points(outer + "<</Use /A>>", root=root), [(108, 1), (11, 2)])

    def test_points_far_away(self):
        text = shape(f"/M {FAR} {-FAR}", "/Scale 64")
        for _ in range(3):
            text = f"<</Scale 64 /Parts [{text}]>>"
        self.assertEqual(self.points(text), [(FAR * 65536, -FAR * 65536)])


class Uses(unittest.TestCase):
    def test_names(self):
        root = f"/Shapes <</A {shape('/M 1 1')} / {shape('/M 2 2')} /B 5 /C [{shape('/M 3 3')}] /D @2>>"
        for use, at in (("/A", 1), ("/", 0), ("/B", 0), ("/C", 0), ("/D", 4), ("/E", 0), ("(A)", 0), ("none", 0),
                        ("@3", 1), (shape("/M 5 5"), 0)):
            marks = shape_marks(f"<</Use {use}>>", root=root, objects=f"#2 {shape('/M 4 4')} #3 /A")
            self.assertEqual(marks, [mark([(at, at)])] if at else [])

    def test_no_shapes(self):
        for root in ("", "/Shapes 5", f"/Shapes [{shape('/M 1 1')}]", "/Shapes @99"):
            self.assertEqual(shape_marks("<</Use /A>>", root=root), [])
            check_costs(self, book_with(drawing("<</Use /A>>"), root=root), BASE + 1 + 1)

    def test_within_itself(self):
        root = f"/Shapes <</A {shape('/M 1 1', '/Use /A')}>>"
        self.assertEqual(shape_marks("<</Use /A>>", root=root), [mark([(1, 1)])])
        root = f"/Shapes <</A {shape('/M 1 1', '/Parts [<</Use /A /Path [/M 2 2]>>]')}>>"
        self.assertEqual(shape_marks("<</Use /A>>", root=root), [mark([(1, 1)]), mark([(2, 2)])])

    def test_within_itself_by_another(self):
        root = f"/Shapes <</A {shape('/M 1 1', '/Use /B')} /B {shape('/M 2 2', '/Use /A')}>>"
        self.assertEqual(shape_marks("<</Use /A>>", root=root), [mark([(1, 1)]), mark([(2, 2)])])
        self.assertEqual(shape_marks("<</Use /B>>", root=root), [mark([(2, 2)]), mark([(1, 1)])])

    def test_twice_side_by_side(self):
        root = f"/Shapes <</A {shape('/M 1 1')} /B <</Use /A /Parts [<</Use /A>>]>>>>"
        self.assertEqual(shape_marks("<</Use /A>> <</Use /A>>", root=root), [mark([(1, 1)])] * 2)
        self.assertEqual(shape_marks("<</Use /B>>", root=root), [mark([(1, 1)])] * 2)
        self.assertEqual(shape_marks("<</Use /B>> <</Use /A>> <</Use /B>>", root=root), [mark([(1, 1)])] * 5)

    def test_the_same_shape_by_another_name(self):
        # Only the names count: two names of one shape lead round it more than once.
        root = "/Shapes <</A @2 /B @2>>"
        objects = f"#2 {shape('/M 1 1', '/Use /B /Parts [<</Use /A>>]')}"
        marks = shape_marks("<</Use /A>>", root=root, objects=objects)
        self.assertEqual(marks, [mark([(1, 1)])] * 2)

    def test_a_shape_that_was_used_before_is_free_again(self):
        # Within A, B may be used, though B was used before A.
        root = f"/Shapes <</A <</Use /B>> /B {shape('/M 1 1')}>>"
        self.assertEqual(shape_marks("<</Use /B /Parts [<</Use /A>>]>>", root=root), [mark([(1, 1)])] * 2)

    def test_before_the_parts(self):
        root = f"/Shapes <</A {shape('/M 1 1')}>>"
        self.assertEqual(shape_marks(f"<</Parts [{shape('/M 2 2')}] /Use /A>>", root=root), [
            mark([(1, 1)]), mark([(2, 2)]),
        ])

    def test_costs(self):
        root = f"/Shapes <</A {shape('/M 1 1')}>>"
        check_costs(self, book_with(drawing("<</Use /A /Parts [5]>>"), root=root), BASE + 1 + 1 + (1 + 3 + 1) + 1)
        # A use of a name that is not allowed costs nothing.
        root = "/Shapes <</A <</Use /A>>>>"
        check_costs(self, book_with(drawing("<</Use /A>>"), root=root), BASE + 1 + 1 + 1)


class Levels(unittest.TestCase):
    def nested(self, levels):
        """The text of a shape within so many others, and its objects."""
        objects = "".join(f"#{at} <</Parts [@{at + 1}]>> " for at in range(10, 10 + levels))
        return "@10", objects + f"#{10 + levels} {shape('/M 1 1', f'/Parts [{shape()}]')}"

    def test_level_8_and_9(self):
        for levels in (0, 6, 7):
            body, objects = self.nested(levels)
            self.assertEqual(shape_marks(body, objects=objects), [mark([(1, 1)])])
        for levels in (8, 9, 20):
            body, objects = self.nested(levels)
            self.assertEqual(shape_marks(body, objects=objects), [])

    def test_costs(self):
        # Each shape costs 1, and its list of parts 1; the path with its point 4.
        for levels, cost in ((0, 1 + 4 + 1 + 1), (6, 12 + 1 + 4 + 1 + 1), (7, 14 + 1 + 4 + 1 + 1), (8, 16 + 1),
                             (9, 16 + 1)):
            body, objects = self.nested(levels)
            check_costs(self, book_with(drawing(body), objects=objects), BASE + 1 + cost)

    def test_a_ring_of_parts(self):
        objects = f"#2 {shape('/M 1 1', '/Parts [@2]')}"
        self.assertEqual(shape_marks("@2", objects=objects), [mark([(1, 1)])] * 8)
        check_costs(self, book_with(drawing("@2"), objects=objects), BASE + 1 + 8 * (1 + 4 + 1) + 1)

    def test_a_used_shape_is_one_level_higher(self):
        names = "ABCDEFGHIJ"
        pairs = [f"/{name} {shape('/M 1 1', f'/Use /{after}')}" for name, after in zip(names, names[1:])]
        root = f"/Shapes <<{' '.join(pairs)}>>"
        self.assertEqual(len(shape_marks("<</Use /A>>", root=root)), 7)
        check_costs(self, book_with(drawing("<</Use /A>>"), root=root), BASE + 1 + 1 + 7 * (1 + 4) + 1)

    def test_many_shapes(self):
        objects = f"#2 {shape('/M 1 1', '/Parts [@2 @2]')}"
        found = book_with(drawing("@2"), objects=objects)
        pages, left = lay_out(found, ENOUGH)
        self.assertEqual(len(pages[0][3]), 255)
        self.assertEqual(ENOUGH - left, BASE + 1 + 255 * (1 + 4 + 2) + 256)
        self.assertEqual(lay_out(found, ENOUGH - left - 1), ([], 0))


class Clips(unittest.TestCase):
    def test_every_shape_has_the_clip_of_its_drawing(self):
        root = f"/Shapes <</A {shape('/M 1 1')}>>"
        parts = f"<</Use /A /Path [/M 2 2] /Parts [{shape('/M 3 3')}]>>"
        for found in marks_of(drawing(parts, "/Width 3 /Height 2"), root=root):
            self.assertEqual(found[1], (0, 0, 12, 8))

    def test_other_marks_have_the_box_of_the_page(self):
        body = drawing(shape("/M 1 1")) + sealed()
        self.assertEqual([found[1] for found in marks_of(body)], [CLIP, PAGE_BOX])


if __name__ == "__main__":
    unittest.main()
