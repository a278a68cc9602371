import itertools
import unittest

from exactlutes.intervals import add, near, order, sub
from support import (
    EQUAL_FIFTH, FIFTH, GREATEST, INTERVALS, LEAST, NO_INTERVALS, OCTAVE, UNISON, GuardedList, check_answer,
    check_second_call, exact_distance, exact_side, opposite,
)

# x, the nearer one and the farther one, which lie on x's two sides and as far from it, but for less than a ten million
# millionth of a cent.
NEARLY_AS_NEAR = [
    ([-44, 55, 84, -55, 24], [65, -6, -92, 83, 19], [79, -66, -35, 63, 23]),
    ([32, -41, 95, -10, 23], [68, -55, 24, 55, 24], [99, -98, 11, 51, 19]),
    ([-40, -8, 61, -35, 19], [-52, -55, 24, 31, 24], [74, -56, -29, 20, 23]),
    ([-97, -62, -89, 84, 24], [-12, 94, -61, -68, 23], [-20, -79, 66, -39, 19]),
    ([-89, -58, -48, 17, 23], [-48, -87, 71, -67, 19], [-47, 50, -91, -24, 24]),
    ([-33, 15, -45, 81, 19], [63, 24, 50, -34, 23], [-71, 74, -67, 96, 24]),
    ([-51, -92, 97, -77, 24], [-2, -5, -98, 36, 23], [21, 79, -53, -74, 19]),
]
# x, the nearer one and the farther one, which lie on the same side of x and nearly at the same place.
NEARLY_AT_ONE_PLACE = [
    (OCTAVE, [31, -39, 6, 8, 24], [-49, 52, 0, -10, 23]),
    (opposite(OCTAVE), [-49, 52, 0, -10, 23], [31, -39, 6, 8, 24]),
    ([99, 99, 99, 99, 1], [79, 9, 78, 80, 24], [-3, 98, 69, 59, 23]),
    ([-99, -99, -99, -99, 1], [-95, 6, -92, -79, 23], [-17, -87, -90, -64, 24]),
]


def steps(numbers):
    """So many equal semitones each."""
    return [[number, 0, 0, 0, 12] for number in numbers]


def expected_near(x, lists):
    nearest = 0
    for number, y in enumerate(lists):
        least = exact_distance(x, lists[nearest])
        if exact_side([p - q for p, q in zip(exact_distance(x, y), least)]) < 0:
            nearest = number
    return [nearest]


class Near(unittest.TestCase):
    def check_all(self, rows):
        for x, lists, expected in rows:
            with self.subTest(x=x, lists=lists):
                check_answer(self, near(x, lists), expected)

    def test_one_to_choose_from(self):
        self.check_all([(x, [y], [0]) for x in INTERVALS for y in INTERVALS])

    def test_one_nearest_at_each_place(self):
        x = FIFTH
        others = [OCTAVE, UNISON, [5, 0, 0, 0, 12], [0, 0, 0, 1, 1], [0, 0, 0, -1, 1], [99, 99, 99, 99, 1]]
        for place in range(len(others) + 1):
            self.check_all([(x, others[:place] + [EQUAL_FIFTH] + others[place:], [place])])

    def test_nearest_above_and_below(self):
        low, mid, high = steps((1, 5, 7))
        self.check_all([
            (mid, [low, high], [1]), (mid, [high, low], [0]), (low, [high, mid], [1]), (high, [low, mid], [1]),
            (opposite(mid), [opposite(low), opposite(high)], [1]), (UNISON, [opposite(mid), low], [1]),
            (UNISON, [opposite(low), mid], [0]), (UNISON, [opposite(high), mid], [1]),
        ])

    def test_fifths(self):
        # The pure fifth, the equal one, and those narrower by a fourth and a sixth part of a comma.
        fourth = [0, 0, 1, 0, 4]
        sixth = sub(FIFTH, [-4, 4, -1, 0, 6])[1:]
        self.check_all([
            (FIFTH, [EQUAL_FIFTH, fourth, sixth], [0]), (FIFTH, [fourth, sixth], [1]),
            (EQUAL_FIFTH, [fourth, sixth, FIFTH], [1]), (sixth, [FIFTH, EQUAL_FIFTH, fourth], [1]),
            (fourth, [FIFTH, EQUAL_FIFTH, sixth], [2]),
        ])

    def test_as_near_on_both_sides(self):
        above, below = [11, 0, 0, 0, 12], [1, 0, 0, 0, 4]
        middle = [7, 0, 0, 0, 12]
        self.check_all([
            (middle, [above, below], [0]), (middle, [below, above], [0]),
            (middle, [OCTAVE, above, UNISON, below], [1]), (middle, [OCTAVE, below, UNISON, above], [1]),
            (UNISON, [OCTAVE, opposite(OCTAVE)], [0]), (UNISON, [opposite(OCTAVE), OCTAVE], [0]),
        ])
        for x in INTERVALS:
            self.check_all([(UNISON, [x, opposite(x)], [0]), (UNISON, [opposite(x), x], [0])])
            for y in INTERVALS:
                upper, lower = add(x, y), sub(x, y)
                if upper[0] == 1 and lower[0] == 1:
                    self.check_all([(x, [upper[1:], lower[1:]], [0]), (x, [lower[1:], upper[1:]], [0])])

    def test_the_same_one_twice(self):
        self.check_all([
            (FIFTH, [EQUAL_FIFTH, list(EQUAL_FIFTH)], [0]),
            (FIFTH, [OCTAVE, EQUAL_FIFTH, OCTAVE, list(EQUAL_FIFTH)], [1]),
            (FIFTH, [OCTAVE, OCTAVE, OCTAVE], [0]),
            (UNISON, [OCTAVE, FIFTH, opposite(FIFTH), FIFTH], [1]),
            (FIFTH, [EQUAL_FIFTH] * 256, [0]),
        ])
        same = list(EQUAL_FIFTH)
        self.check_all([(same, [OCTAVE, same, same], [1])])

    def test_x_itself_among_them(self):
        for x in INTERVALS:
            place = INTERVALS.index(x)
            self.check_all([(x, INTERVALS, [place]), (x, INTERVALS + [x], [place]), (x, [x], [0]), (x, [x, x], [0])])
            self.check_all([(x, INTERVALS[::-1], [len(INTERVALS) - 1 - place])])

    def test_nearly_as_near_on_both_sides(self):
        for x, nearer, farther in NEARLY_AS_NEAR:
            self.check_all([
                (x, [nearer, farther], [0]), (x, [farther, nearer], [1]), (x, [farther, farther, nearer, nearer], [2]),
                (opposite(x), [opposite(nearer), opposite(farther)], [0]),
                (opposite(x), [opposite(farther), opposite(nearer)], [1]),
            ])
            self.assertEqual(expected_near(x, [farther, nearer]), [1])
            self.assertEqual({order(x, nearer)[0], order(x, farther)[0]}, {0, 2})

    def test_nearly_at_one_place(self):
        for x, nearer, farther in NEARLY_AT_ONE_PLACE:
            self.check_all([
                (x, [nearer, farther], [0]), (x, [farther, nearer], [1]), (x, [farther, nearer, farther, nearer], [1]),
                (opposite(x), [opposite(nearer), opposite(farther)], [0]),
                (opposite(x), [opposite(farther), opposite(nearer)], [1]),
            ])
            self.assertEqual(expected_near(x, [farther, nearer]), [1])

    def test_what_lies_between_is_beyond_the_ranges(self):
        least, most = [-99, -99, -99, -99, 1], [99, 99, 99, 99, 1]
        self.check_all([
            (most, [least, [-99, -99, -99, -98, 1]], [1]),
            (most, [[-99, -99, -99, -98, 1], least], [0]),
            (least, [most, [98, 99, 99, 99, 1]], [1]),
            (least, [most, UNISON, most], [1]),
            ([99, 0, 0, 0, 1], [[-99, 0, 0, 0, 1], [-98, 0, 0, 0, 1], [-99, 1, 0, 0, 1]], [2]),
            # d beyond 24, and no common d of all of them up to some thousands
            ([1, 0, 0, 0, 23], [[1, 0, 0, 0, 19], [1, 0, 0, 0, 24], [1, 0, 0, 0, 22]], [1]),
            ([1, 0, 0, 0, 19], [[1, 0, 0, 0, 17], [1, 0, 0, 0, 22]], [0]),
            ([1, 0, 0, 0, 19], [[1, 0, 0, 0, 17], [1, 0, 0, 0, 21]], [1]),
        ])

    def test_many_intervals(self):
        lists = [x for row in NEARLY_AT_ONE_PLACE for x in row] + INTERVALS
        for x in INTERVALS:
            for start in range(0, len(lists) - 5, 5):
                some = [y for y in lists[start:start + 9] if y != x]
                self.check_all([(x, some, expected_near(x, some))])

    def test_none_is_nearer(self):
        for x in INTERVALS:
            lists = [y for y in INTERVALS if y != x]
            place = near(x, lists)[0]
            least = exact_distance(x, lists[place])
            for number, y in enumerate(lists):
                side = exact_side([p - q for p, q in zip(exact_distance(x, y), least)])
                self.assertTrue(side > 0 or (side == 0 and number >= place), (x, y))

    def test_whatever_is_put_upon_all_the_same_one_is_told(self):
        lists = [FIFTH, EQUAL_FIFTH, [0, 0, 1, 0, 4], [2, -1, 0, 0, 1], [1, 0, 0, 0, 2], [-2, 0, 1, 0, 1]]
        for x, z in itertools.product(lists, [OCTAVE, opposite(OCTAVE), FIFTH, [1, 0, 0, 0, 12], [-4, 4, -1, 0, 1]]):
            others = [y for y in lists if y != x]
            moved = [add(y, z)[1:] for y in others]
            self.check_all([(add(x, z)[1:], moved, near(x, others))])

    def test_how_many_there_may_be(self):
        many = [[number % 99, 0, 0, 0, 1] for number in range(300)]
        self.check_all([
            (OCTAVE, [], [-1]), (OCTAVE, many[:255], [1]), (OCTAVE, many[:256], [1]), (OCTAVE, many[:257], [-1]),
            (OCTAVE, many[:258], [-1]), (OCTAVE, many, [-1]), (OCTAVE, [OCTAVE] * 257, [-1]),
            (OCTAVE, [OCTAVE] * 300, [-1]), (OCTAVE, [[99, 0, 0, 0, 1]] * 255 + [OCTAVE], [255]),
            (OCTAVE, [[99, 0, 0, 0, 1]] * 256 + [OCTAVE], [-1]),
        ])

    def test_x_no_interval(self):
        for x in NO_INTERVALS:
            self.check_all([
                (x, [OCTAVE], [-1]), (x, INTERVALS, [-1]), (x, [], [-1]), (x, [OCTAVE] * 257, [-1]), (x, [x], [-1]),
            ])

    def test_one_of_them_no_interval(self):
        for wrong in NO_INTERVALS:
            for place in (0, 1, 3, len(INTERVALS) - 1, len(INTERVALS)):
                self.check_all([(FIFTH, INTERVALS[:place] + [wrong] + INTERVALS[place:], [-1])])
            self.check_all([(FIFTH, [wrong], [-1]), (FIFTH, [FIFTH, wrong], [-1]), (FIFTH, [wrong, FIFTH], [-1])])
        for place in (0, 100, 255):
            lists = [FIFTH] * 256
            lists[place] = [1, 0, 0, 0, 25]
            self.check_all([(FIFTH, lists, [-1])])
        self.check_all([(FIFTH, [[LEAST] * 8] * 300, [-1]), (FIFTH, [[GREATEST] * 8] * 256, [-1])])

    def test_all_of_them_hard_to_part(self):
        # Each one nearer by a hair's breadth than the one before it, or as near.
        x, nearer, farther = NEARLY_AS_NEAR[0]
        self.check_all([(x, [farther, nearer] * 128, [1]), (x, [farther] * 255 + [nearer], [255])])

    def test_what_is_handed_in_stays(self):
        for x, lists in (
            (FIFTH, INTERVALS), (FIFTH, INTERVALS[::-1]), (FIFTH, NO_INTERVALS), ([1, 2], INTERVALS), (FIFTH, []),
            (FIFTH, [FIFTH] * 257), (FIFTH, [OCTAVE, [1, 2], EQUAL_FIFTH]),
        ):
            guarded = GuardedList([GuardedList(y) for y in lists])
            kept = list(guarded)
            first = GuardedList(x)
            near(first, guarded)
            self.assertEqual(list(first), x)
            self.assertEqual([list(y) for y in guarded], lists)
            self.assertTrue(all(y is z for y, z in zip(guarded, kept)))

    def test_a_second_call_answers_as_the_first(self):
        for x, lists, expected in (
            (FIFTH, [OCTAVE, EQUAL_FIFTH], [1]), (FIFTH, [FIFTH], [0]), (FIFTH, [], [-1]), (FIFTH, [[1, 2]], [-1]),
        ):
            check_second_call(self, near, (x, lists), expected)

    def test_arguments_by_name(self):
        check_answer(self, near(l=[OCTAVE, EQUAL_FIFTH], x=FIFTH), [1])


if __name__ == "__main__":
    unittest.main()
