/-
  Texts laid together in one: TabG, MathG, Ref03Form, Ref03Of, GrammarTexts, GrammarReadForm, GrammarOf.
-/
import Derived.Test.YtgjedfmipllocaaGreatDoorB01
import Derived.Test.YtgjedfmipllocaaGreatDoorB03
import Derived.WalkSpells
import Derived.Test.YtgjedfmipllocaaGreatDoorProg
import Derived.WalkMore
import Derived.Lib.OthersKept
/-
  The tables of the layer grammar, as the program and the document's answer have them: texts by numbers, forms by operations, names of enumerants.
-/
namespace Go.Proofs.YtgjedfmipllocaaGreatDoor
open Go.RowKit
set_option linter.unusedVariables false

def namingT : List (Int × ByteArray) := [
  (1, ⟨#[79, 112, 85, 110, 100, 101, 102, 47, 116, 114, 47, 47, 47, 48, 47, 55]⟩),
  (3, ⟨#[79, 112, 83, 111, 117, 114, 99, 101, 47, 47, 108, 110, 47, 47, 48, 47, 52]⟩),
  (5, ⟨#[79, 112, 78, 97, 109, 101, 47, 47, 105, 115, 47, 47, 48, 47, 53]⟩),
  (6, ⟨#[79, 112, 77, 101, 109, 98, 101, 114, 78, 97, 109, 101, 47, 47, 105, 110, 115, 47, 47, 48, 47, 53]⟩),
  (7, ⟨#[79, 112, 83, 116, 114, 105, 110, 103, 47, 114, 47, 115, 47, 47, 48, 47, 52]⟩),
  (14, ⟨#[79, 112, 77, 101, 109, 111, 114, 121, 77, 111, 100, 101, 108, 47, 47, 97, 109, 47, 47, 48, 47, 49]⟩),
  (15, ⟨#[79, 112, 69, 110, 116, 114, 121, 80, 111, 105, 110, 116, 47, 47, 101, 105, 115, 47, 105, 47, 48, 47, 50]⟩),
  (16, ⟨#[79, 112, 69, 120, 101, 99, 117, 116, 105, 111, 110, 77, 111, 100, 101, 47, 47, 105, 120, 47, 47, 48, 47, 51]⟩),
  (17, ⟨#[79, 112, 67, 97, 112, 97, 98, 105, 108, 105, 116, 121, 47, 47, 107, 47, 47, 48, 47, 48]⟩),
  (19, ⟨#[79, 112, 84, 121, 112, 101, 86, 111, 105, 100, 47, 114, 47, 47, 47, 48, 47, 55]⟩),
  (20, ⟨#[79, 112, 84, 121, 112, 101, 66, 111, 111, 108, 47, 114, 47, 47, 47, 48, 47, 55]⟩),
  (21, ⟨#[79, 112, 84, 121, 112, 101, 73, 110, 116, 47, 114, 47, 110, 110, 47, 47, 48, 47, 55]⟩),
  (23, ⟨#[79, 112, 84, 121, 112, 101, 86, 101, 99, 116, 111, 114, 47, 114, 47, 105, 110, 47, 47, 48, 47, 55]⟩),
  (28, ⟨#[79, 112, 84, 121, 112, 101, 65, 114, 114, 97, 121, 47, 114, 47, 105, 105, 47, 47, 48, 47, 55]⟩),
  (30, ⟨#[79, 112, 84, 121, 112, 101, 83, 116, 114, 117, 99, 116, 47, 114, 47, 47, 105, 47, 48, 47, 55]⟩),
  (32, ⟨#[79, 112, 84, 121, 112, 101, 80, 111, 105, 110, 116, 101, 114, 47, 114, 47, 99, 105, 47, 47, 48, 47, 55]⟩),
  (33, ⟨#[79, 112, 84, 121, 112, 101, 70, 117, 110, 99, 116, 105, 111, 110, 47, 114, 47, 105, 47, 105, 47, 48, 47, 55]⟩)]

def makingT : List (Int × ByteArray) := [
  (41, ⟨#[79, 112, 67, 111, 110, 115, 116, 97, 110, 116, 84, 114, 117, 101, 47, 116, 114, 47, 47, 47, 48, 47, 55]⟩),
  (42, ⟨#[79, 112, 67, 111, 110, 115, 116, 97, 110, 116, 70, 97, 108, 115, 101, 47, 116, 114, 47, 47, 47, 48, 47, 55]⟩),
  (43, ⟨#[79, 112, 67, 111, 110, 115, 116, 97, 110, 116, 47, 116, 114, 47, 110, 47, 47, 48, 47, 55]⟩),
  (44, ⟨#[79, 112, 67, 111, 110, 115, 116, 97, 110, 116, 67, 111, 109, 112, 111, 115, 105, 116, 101, 47, 116, 114, 47, 47, 105, 47, 48, 47, 55]⟩),
  (46, ⟨#[79, 112, 67, 111, 110, 115, 116, 97, 110, 116, 78, 117, 108, 108, 47, 116, 114, 47, 47, 47, 48, 47, 55]⟩),
  (54, ⟨#[79, 112, 70, 117, 110, 99, 116, 105, 111, 110, 47, 116, 114, 47, 102, 105, 47, 47, 48, 47, 56]⟩),
  (55, ⟨#[79, 112, 70, 117, 110, 99, 116, 105, 111, 110, 80, 97, 114, 97, 109, 101, 116, 101, 114, 47, 116, 114, 47, 47, 47, 48, 47, 56]⟩),
  (56, ⟨#[79, 112, 70, 117, 110, 99, 116, 105, 111, 110, 69, 110, 100, 47, 47, 47, 47, 48, 47, 56]⟩),
  (57, ⟨#[79, 112, 70, 117, 110, 99, 116, 105, 111, 110, 67, 97, 108, 108, 47, 116, 114, 47, 105, 47, 105, 47, 48, 47, 56]⟩),
  (59, ⟨#[79, 112, 86, 97, 114, 105, 97, 98, 108, 101, 47, 116, 114, 47, 99, 47, 105, 47, 49, 47, 55]⟩),
  (61, ⟨#[79, 112, 76, 111, 97, 100, 47, 116, 114, 47, 105, 47, 47, 48, 47, 56]⟩),
  (62, ⟨#[79, 112, 83, 116, 111, 114, 101, 47, 47, 105, 105, 47, 47, 48, 47, 56]⟩),
  (65, ⟨#[79, 112, 65, 99, 99, 101, 115, 115, 67, 104, 97, 105, 110, 47, 116, 114, 47, 105, 47, 105, 47, 48, 47, 56]⟩),
  (71, ⟨#[79, 112, 68, 101, 99, 111, 114, 97, 116, 101, 47, 47, 105, 100, 47, 110, 47, 48, 47, 54]⟩),
  (77, ⟨#[79, 112, 86, 101, 99, 116, 111, 114, 69, 120, 116, 114, 97, 99, 116, 68, 121, 110, 97, 109, 105, 99, 47, 116, 114, 47, 105, 105, 47, 47, 48, 47, 56]⟩),
  (78, ⟨#[79, 112, 86, 101, 99, 116, 111, 114, 73, 110, 115, 101, 114, 116, 68, 121, 110, 97, 109, 105, 99, 47, 116, 114, 47, 105, 105, 105, 47, 47, 48, 47, 56]⟩),
  (79, ⟨#[79, 112, 86, 101, 99, 116, 111, 114, 83, 104, 117, 102, 102, 108, 101, 47, 116, 114, 47, 105, 105, 47, 110, 47, 48, 47, 56]⟩),
  (80, ⟨#[79, 112, 67, 111, 109, 112, 111, 115, 105, 116, 101, 67, 111, 110, 115, 116, 114, 117, 99, 116, 47, 116, 114, 47, 47, 105, 47, 48, 47, 56]⟩),
  (81, ⟨#[79, 112, 67, 111, 109, 112, 111, 115, 105, 116, 101, 69, 120, 116, 114, 97, 99, 116, 47, 116, 114, 47, 105, 47, 110, 47, 48, 47, 56]⟩),
  (82, ⟨#[79, 112, 67, 111, 109, 112, 111, 115, 105, 116, 101, 73, 110, 115, 101, 114, 116, 47, 116, 114, 47, 105, 105, 47, 110, 47, 48, 47, 56]⟩),
  (83, ⟨#[79, 112, 67, 111, 112, 121, 79, 98, 106, 101, 99, 116, 47, 116, 114, 47, 105, 47, 47, 48, 47, 56]⟩)]

def countingT : List (Int × ByteArray) := [
  (124, ⟨#[79, 112, 66, 105, 116, 99, 97, 115, 116, 47, 116, 114, 47, 105, 47, 47, 48, 47, 56]⟩),
  (126, ⟨#[79, 112, 83, 78, 101, 103, 97, 116, 101, 47, 116, 114, 47, 105, 47, 47, 48, 47, 56]⟩),
  (128, ⟨#[79, 112, 73, 65, 100, 100, 47, 116, 114, 47, 105, 105, 47, 47, 48, 47, 56]⟩),
  (130, ⟨#[79, 112, 73, 83, 117, 98, 47, 116, 114, 47, 105, 105, 47, 47, 48, 47, 56]⟩),
  (132, ⟨#[79, 112, 73, 77, 117, 108, 47, 116, 114, 47, 105, 105, 47, 47, 48, 47, 56]⟩),
  (134, ⟨#[79, 112, 85, 68, 105, 118, 47, 116, 114, 47, 105, 105, 47, 47, 48, 47, 56]⟩),
  (135, ⟨#[79, 112, 83, 68, 105, 118, 47, 116, 114, 47, 105, 105, 47, 47, 48, 47, 56]⟩),
  (137, ⟨#[79, 112, 85, 77, 111, 100, 47, 116, 114, 47, 105, 105, 47, 47, 48, 47, 56]⟩),
  (138, ⟨#[79, 112, 83, 82, 101, 109, 47, 116, 114, 47, 105, 105, 47, 47, 48, 47, 56]⟩),
  (139, ⟨#[79, 112, 83, 77, 111, 100, 47, 116, 114, 47, 105, 105, 47, 47, 48, 47, 56]⟩),
  (149, ⟨#[79, 112, 73, 65, 100, 100, 67, 97, 114, 114, 121, 47, 116, 114, 47, 105, 105, 47, 47, 48, 47, 56]⟩),
  (150, ⟨#[79, 112, 73, 83, 117, 98, 66, 111, 114, 114, 111, 119, 47, 116, 114, 47, 105, 105, 47, 47, 48, 47, 56]⟩),
  (151, ⟨#[79, 112, 85, 77, 117, 108, 69, 120, 116, 101, 110, 100, 101, 100, 47, 116, 114, 47, 105, 105, 47, 47, 48, 47, 56]⟩),
  (152, ⟨#[79, 112, 83, 77, 117, 108, 69, 120, 116, 101, 110, 100, 101, 100, 47, 116, 114, 47, 105, 105, 47, 47, 48, 47, 56]⟩),
  (154, ⟨#[79, 112, 65, 110, 121, 47, 116, 114, 47, 105, 47, 47, 48, 47, 56]⟩),
  (155, ⟨#[79, 112, 65, 108, 108, 47, 116, 114, 47, 105, 47, 47, 48, 47, 56]⟩)]

def comparingT : List (Int × ByteArray) := [
  (164, ⟨#[79, 112, 76, 111, 103, 105, 99, 97, 108, 69, 113, 117, 97, 108, 47, 116, 114, 47, 105, 105, 47, 47, 48, 47, 56]⟩),
  (165, ⟨#[79, 112, 76, 111, 103, 105, 99, 97, 108, 78, 111, 116, 69, 113, 117, 97, 108, 47, 116, 114, 47, 105, 105, 47, 47, 48, 47, 56]⟩),
  (166, ⟨#[79, 112, 76, 111, 103, 105, 99, 97, 108, 79, 114, 47, 116, 114, 47, 105, 105, 47, 47, 48, 47, 56]⟩),
  (167, ⟨#[79, 112, 76, 111, 103, 105, 99, 97, 108, 65, 110, 100, 47, 116, 114, 47, 105, 105, 47, 47, 48, 47, 56]⟩),
  (168, ⟨#[79, 112, 76, 111, 103, 105, 99, 97, 108, 78, 111, 116, 47, 116, 114, 47, 105, 47, 47, 48, 47, 56]⟩),
  (169, ⟨#[79, 112, 83, 101, 108, 101, 99, 116, 47, 116, 114, 47, 105, 105, 105, 47, 47, 48, 47, 56]⟩),
  (170, ⟨#[79, 112, 73, 69, 113, 117, 97, 108, 47, 116, 114, 47, 105, 105, 47, 47, 48, 47, 56]⟩),
  (171, ⟨#[79, 112, 73, 78, 111, 116, 69, 113, 117, 97, 108, 47, 116, 114, 47, 105, 105, 47, 47, 48, 47, 56]⟩),
  (172, ⟨#[79, 112, 85, 71, 114, 101, 97, 116, 101, 114, 84, 104, 97, 110, 47, 116, 114, 47, 105, 105, 47, 47, 48, 47, 56]⟩),
  (173, ⟨#[79, 112, 83, 71, 114, 101, 97, 116, 101, 114, 84, 104, 97, 110, 47, 116, 114, 47, 105, 105, 47, 47, 48, 47, 56]⟩),
  (174, ⟨#[79, 112, 85, 71, 114, 101, 97, 116, 101, 114, 84, 104, 97, 110, 69, 113, 117, 97, 108, 47, 116, 114, 47, 105, 105, 47, 47, 48, 47, 56]⟩),
  (175, ⟨#[79, 112, 83, 71, 114, 101, 97, 116, 101, 114, 84, 104, 97, 110, 69, 113, 117, 97, 108, 47, 116, 114, 47, 105, 105, 47, 47, 48, 47, 56]⟩),
  (176, ⟨#[79, 112, 85, 76, 101, 115, 115, 84, 104, 97, 110, 47, 116, 114, 47, 105, 105, 47, 47, 48, 47, 56]⟩),
  (177, ⟨#[79, 112, 83, 76, 101, 115, 115, 84, 104, 97, 110, 47, 116, 114, 47, 105, 105, 47, 47, 48, 47, 56]⟩),
  (178, ⟨#[79, 112, 85, 76, 101, 115, 115, 84, 104, 97, 110, 69, 113, 117, 97, 108, 47, 116, 114, 47, 105, 105, 47, 47, 48, 47, 56]⟩),
  (179, ⟨#[79, 112, 83, 76, 101, 115, 115, 84, 104, 97, 110, 69, 113, 117, 97, 108, 47, 116, 114, 47, 105, 105, 47, 47, 48, 47, 56]⟩)]

def bitT : List (Int × ByteArray) := [
  (194, ⟨#[79, 112, 83, 104, 105, 102, 116, 82, 105, 103, 104, 116, 76, 111, 103, 105, 99, 97, 108, 47, 116, 114, 47, 105, 105, 47, 47, 48, 47, 56]⟩),
  (195, ⟨#[79, 112, 83, 104, 105, 102, 116, 82, 105, 103, 104, 116, 65, 114, 105, 116, 104, 109, 101, 116, 105, 99, 47, 116, 114, 47, 105, 105, 47, 47, 48, 47, 56]⟩),
  (196, ⟨#[79, 112, 83, 104, 105, 102, 116, 76, 101, 102, 116, 76, 111, 103, 105, 99, 97, 108, 47, 116, 114, 47, 105, 105, 47, 47, 48, 47, 56]⟩),
  (197, ⟨#[79, 112, 66, 105, 116, 119, 105, 115, 101, 79, 114, 47, 116, 114, 47, 105, 105, 47, 47, 48, 47, 56]⟩),
  (198, ⟨#[79, 112, 66, 105, 116, 119, 105, 115, 101, 88, 111, 114, 47, 116, 114, 47, 105, 105, 47, 47, 48, 47, 56]⟩),
  (199, ⟨#[79, 112, 66, 105, 116, 119, 105, 115, 101, 65, 110, 100, 47, 116, 114, 47, 105, 105, 47, 47, 48, 47, 56]⟩),
  (200, ⟨#[79, 112, 78, 111, 116, 47, 116, 114, 47, 105, 47, 47, 48, 47, 56]⟩),
  (201, ⟨#[79, 112, 66, 105, 116, 70, 105, 101, 108, 100, 73, 110, 115, 101, 114, 116, 47, 116, 114, 47, 105, 105, 105, 105, 47, 47, 48, 47, 56]⟩),
  (202, ⟨#[79, 112, 66, 105, 116, 70, 105, 101, 108, 100, 83, 69, 120, 116, 114, 97, 99, 116, 47, 116, 114, 47, 105, 105, 105, 47, 47, 48, 47, 56]⟩),
  (203, ⟨#[79, 112, 66, 105, 116, 70, 105, 101, 108, 100, 85, 69, 120, 116, 114, 97, 99, 116, 47, 116, 114, 47, 105, 105, 105, 47, 47, 48, 47, 56]⟩),
  (204, ⟨#[79, 112, 66, 105, 116, 82, 101, 118, 101, 114, 115, 101, 47, 116, 114, 47, 105, 47, 47, 48, 47, 56]⟩),
  (205, ⟨#[79, 112, 66, 105, 116, 67, 111, 117, 110, 116, 47, 116, 114, 47, 105, 47, 47, 48, 47, 56]⟩)]

def flowT : List (Int × ByteArray) := [
  (245, ⟨#[79, 112, 80, 104, 105, 47, 116, 114, 47, 47, 105, 105, 47, 48, 47, 56]⟩),
  (246, ⟨#[79, 112, 76, 111, 111, 112, 77, 101, 114, 103, 101, 47, 47, 105, 105, 103, 47, 47, 48, 47, 56]⟩),
  (247, ⟨#[79, 112, 83, 101, 108, 101, 99, 116, 105, 111, 110, 77, 101, 114, 103, 101, 47, 47, 105, 104, 47, 47, 48, 47, 56]⟩),
  (248, ⟨#[79, 112, 76, 97, 98, 101, 108, 47, 114, 47, 47, 47, 48, 47, 56]⟩),
  (249, ⟨#[79, 112, 66, 114, 97, 110, 99, 104, 47, 47, 105, 47, 47, 48, 47, 56]⟩),
  (250, ⟨#[79, 112, 66, 114, 97, 110, 99, 104, 67, 111, 110, 100, 105, 116, 105, 111, 110, 97, 108, 47, 47, 105, 105, 105, 47, 47, 48, 47, 56]⟩),
  (251, ⟨#[79, 112, 83, 119, 105, 116, 99, 104, 47, 47, 105, 105, 47, 110, 105, 47, 48, 47, 56]⟩),
  (252, ⟨#[79, 112, 75, 105, 108, 108, 47, 47, 47, 47, 48, 47, 56]⟩),
  (253, ⟨#[79, 112, 82, 101, 116, 117, 114, 110, 47, 47, 47, 47, 48, 47, 56]⟩),
  (254, ⟨#[79, 112, 82, 101, 116, 117, 114, 110, 86, 97, 108, 117, 101, 47, 47, 105, 47, 47, 48, 47, 56]⟩),
  (255, ⟨#[79, 112, 85, 110, 114, 101, 97, 99, 104, 97, 98, 108, 101, 47, 47, 47, 47, 48, 47, 56]⟩)]

def enumT : List (Int × ByteArray) := [
  (107, ⟨#[48, 58, 77, 97, 116, 114, 105, 120, 59, 49, 58, 83, 104, 97, 100, 101, 114, 59]⟩),
  (97, ⟨#[48, 58, 76, 111, 103, 105, 99, 97, 108, 59]⟩),
  (109, ⟨#[48, 58, 83, 105, 109, 112, 108, 101, 59, 49, 58, 71, 76, 83, 76, 52, 53, 48, 59]⟩),
  (101, ⟨#[48, 58, 86, 101, 114, 116, 101, 120, 59, 52, 58, 70, 114, 97, 103, 109, 101, 110, 116, 59]⟩),
  (120, ⟨#[55, 58, 79, 114, 105, 103, 105, 110, 85, 112, 112, 101, 114, 76, 101, 102, 116, 59]⟩),
  (108, ⟨#[48, 58, 85, 110, 107, 110, 111, 119, 110, 59, 49, 58, 69, 83, 83, 76, 59, 50, 58, 71, 76, 83, 76, 59]⟩),
  (99, ⟨#[49, 58, 73, 110, 112, 117, 116, 59, 51, 58, 79, 117, 116, 112, 117, 116, 59, 54, 58, 80, 114, 105, 118, 97, 116, 101, 59, 55, 58, 70, 117, 110, 99, 116, 105, 111, 110, 59]⟩),
  (100, ⟨#[48, 58, 82, 101, 108, 97, 120, 101, 100, 80, 114, 101, 99, 105, 115, 105, 111, 110, 59, 49, 49, 58, 66, 117, 105, 108, 116, 73, 110, 59, 49, 52, 58, 70, 108, 97, 116, 59, 51, 48, 58, 76, 111, 99, 97, 116, 105, 111, 110, 59]⟩),
  (102, ⟨#[48, 58, 78, 111, 110, 101, 59, 49, 58, 73, 110, 108, 105, 110, 101, 59, 50, 58, 68, 111, 110, 116, 73, 110, 108, 105, 110, 101, 59, 52, 58, 80, 117, 114, 101, 59, 56, 58, 67, 111, 110, 115, 116, 59]⟩),
  (104, ⟨#[48, 58, 78, 111, 110, 101, 59, 49, 58, 70, 108, 97, 116, 116, 101, 110, 59, 50, 58, 68, 111, 110, 116, 70, 108, 97, 116, 116, 101, 110, 59]⟩),
  (103, ⟨#[48, 58, 78, 111, 110, 101, 59, 49, 58, 85, 110, 114, 111, 108, 108, 59, 50, 58, 68, 111, 110, 116, 85, 110, 114, 111, 108, 108, 59]⟩)]

/-- A form but for its operation: its name, whether it has a type and a result, Fixed, Rest, Most, Part. -/
abbrev Frm := ByteArray × Bool × Bool × ByteArray × ByteArray × Int × Int

def refT : List (Int × Frm) := [
  (1, ⟨#[79, 112, 85, 110, 100, 101, 102]⟩, true, true, ⟨#[]⟩, ⟨#[]⟩, 0, 7),
  (3, ⟨#[79, 112, 83, 111, 117, 114, 99, 101]⟩, false, false, ⟨#[108, 110]⟩, ⟨#[]⟩, 0, 4),
  (5, ⟨#[79, 112, 78, 97, 109, 101]⟩, false, false, ⟨#[105, 115]⟩, ⟨#[]⟩, 0, 5),
  (6, ⟨#[79, 112, 77, 101, 109, 98, 101, 114, 78, 97, 109, 101]⟩, false, false, ⟨#[105, 110, 115]⟩, ⟨#[]⟩, 0, 5),
  (7, ⟨#[79, 112, 83, 116, 114, 105, 110, 103]⟩, false, true, ⟨#[115]⟩, ⟨#[]⟩, 0, 4),
  (14, ⟨#[79, 112, 77, 101, 109, 111, 114, 121, 77, 111, 100, 101, 108]⟩, false, false, ⟨#[97, 109]⟩, ⟨#[]⟩, 0, 1),
  (15, ⟨#[79, 112, 69, 110, 116, 114, 121, 80, 111, 105, 110, 116]⟩, false, false, ⟨#[101, 105, 115]⟩, ⟨#[105]⟩, 0, 2),
  (16, ⟨#[79, 112, 69, 120, 101, 99, 117, 116, 105, 111, 110, 77, 111, 100, 101]⟩, false, false, ⟨#[105, 120]⟩, ⟨#[]⟩, 0, 3),
  (17, ⟨#[79, 112, 67, 97, 112, 97, 98, 105, 108, 105, 116, 121]⟩, false, false, ⟨#[107]⟩, ⟨#[]⟩, 0, 0),
  (19, ⟨#[79, 112, 84, 121, 112, 101, 86, 111, 105, 100]⟩, false, true, ⟨#[]⟩, ⟨#[]⟩, 0, 7),
  (20, ⟨#[79, 112, 84, 121, 112, 101, 66, 111, 111, 108]⟩, false, true, ⟨#[]⟩, ⟨#[]⟩, 0, 7),
  (21, ⟨#[79, 112, 84, 121, 112, 101, 73, 110, 116]⟩, false, true, ⟨#[110, 110]⟩, ⟨#[]⟩, 0, 7),
  (23, ⟨#[79, 112, 84, 121, 112, 101, 86, 101, 99, 116, 111, 114]⟩, false, true, ⟨#[105, 110]⟩, ⟨#[]⟩, 0, 7),
  (28, ⟨#[79, 112, 84, 121, 112, 101, 65, 114, 114, 97, 121]⟩, false, true, ⟨#[105, 105]⟩, ⟨#[]⟩, 0, 7),
  (30, ⟨#[79, 112, 84, 121, 112, 101, 83, 116, 114, 117, 99, 116]⟩, false, true, ⟨#[]⟩, ⟨#[105]⟩, 0, 7),
  (32, ⟨#[79, 112, 84, 121, 112, 101, 80, 111, 105, 110, 116, 101, 114]⟩, false, true, ⟨#[99, 105]⟩, ⟨#[]⟩, 0, 7),
  (33, ⟨#[79, 112, 84, 121, 112, 101, 70, 117, 110, 99, 116, 105, 111, 110]⟩, false, true, ⟨#[105]⟩, ⟨#[105]⟩, 0, 7),
  (41, ⟨#[79, 112, 67, 111, 110, 115, 116, 97, 110, 116, 84, 114, 117, 101]⟩, true, true, ⟨#[]⟩, ⟨#[]⟩, 0, 7),
  (42, ⟨#[79, 112, 67, 111, 110, 115, 116, 97, 110, 116, 70, 97, 108, 115, 101]⟩, true, true, ⟨#[]⟩, ⟨#[]⟩, 0, 7),
  (43, ⟨#[79, 112, 67, 111, 110, 115, 116, 97, 110, 116]⟩, true, true, ⟨#[110]⟩, ⟨#[]⟩, 0, 7),
  (44, ⟨#[79, 112, 67, 111, 110, 115, 116, 97, 110, 116, 67, 111, 109, 112, 111, 115, 105, 116, 101]⟩, true, true, ⟨#[]⟩, ⟨#[105]⟩, 0, 7),
  (46, ⟨#[79, 112, 67, 111, 110, 115, 116, 97, 110, 116, 78, 117, 108, 108]⟩, true, true, ⟨#[]⟩, ⟨#[]⟩, 0, 7),
  (54, ⟨#[79, 112, 70, 117, 110, 99, 116, 105, 111, 110]⟩, true, true, ⟨#[102, 105]⟩, ⟨#[]⟩, 0, 8),
  (55, ⟨#[79, 112, 70, 117, 110, 99, 116, 105, 111, 110, 80, 97, 114, 97, 109, 101, 116, 101, 114]⟩, true, true, ⟨#[]⟩, ⟨#[]⟩, 0, 8),
  (56, ⟨#[79, 112, 70, 117, 110, 99, 116, 105, 111, 110, 69, 110, 100]⟩, false, false, ⟨#[]⟩, ⟨#[]⟩, 0, 8),
  (57, ⟨#[79, 112, 70, 117, 110, 99, 116, 105, 111, 110, 67, 97, 108, 108]⟩, true, true, ⟨#[105]⟩, ⟨#[105]⟩, 0, 8),
  (59, ⟨#[79, 112, 86, 97, 114, 105, 97, 98, 108, 101]⟩, true, true, ⟨#[99]⟩, ⟨#[105]⟩, 1, 7),
  (61, ⟨#[79, 112, 76, 111, 97, 100]⟩, true, true, ⟨#[105]⟩, ⟨#[]⟩, 0, 8),
  (62, ⟨#[79, 112, 83, 116, 111, 114, 101]⟩, false, false, ⟨#[105, 105]⟩, ⟨#[]⟩, 0, 8),
  (65, ⟨#[79, 112, 65, 99, 99, 101, 115, 115, 67, 104, 97, 105, 110]⟩, true, true, ⟨#[105]⟩, ⟨#[105]⟩, 0, 8),
  (71, ⟨#[79, 112, 68, 101, 99, 111, 114, 97, 116, 101]⟩, false, false, ⟨#[105, 100]⟩, ⟨#[110]⟩, 0, 6),
  (77, ⟨#[79, 112, 86, 101, 99, 116, 111, 114, 69, 120, 116, 114, 97, 99, 116, 68, 121, 110, 97, 109, 105, 99]⟩, true, true, ⟨#[105, 105]⟩, ⟨#[]⟩, 0, 8),
  (78, ⟨#[79, 112, 86, 101, 99, 116, 111, 114, 73, 110, 115, 101, 114, 116, 68, 121, 110, 97, 109, 105, 99]⟩, true, true, ⟨#[105, 105, 105]⟩, ⟨#[]⟩, 0, 8),
  (79, ⟨#[79, 112, 86, 101, 99, 116, 111, 114, 83, 104, 117, 102, 102, 108, 101]⟩, true, true, ⟨#[105, 105]⟩, ⟨#[110]⟩, 0, 8),
  (80, ⟨#[79, 112, 67, 111, 109, 112, 111, 115, 105, 116, 101, 67, 111, 110, 115, 116, 114, 117, 99, 116]⟩, true, true, ⟨#[]⟩, ⟨#[105]⟩, 0, 8),
  (81, ⟨#[79, 112, 67, 111, 109, 112, 111, 115, 105, 116, 101, 69, 120, 116, 114, 97, 99, 116]⟩, true, true, ⟨#[105]⟩, ⟨#[110]⟩, 0, 8),
  (82, ⟨#[79, 112, 67, 111, 109, 112, 111, 115, 105, 116, 101, 73, 110, 115, 101, 114, 116]⟩, true, true, ⟨#[105, 105]⟩, ⟨#[110]⟩, 0, 8),
  (83, ⟨#[79, 112, 67, 111, 112, 121, 79, 98, 106, 101, 99, 116]⟩, true, true, ⟨#[105]⟩, ⟨#[]⟩, 0, 8),
  (124, ⟨#[79, 112, 66, 105, 116, 99, 97, 115, 116]⟩, true, true, ⟨#[105]⟩, ⟨#[]⟩, 0, 8),
  (126, ⟨#[79, 112, 83, 78, 101, 103, 97, 116, 101]⟩, true, true, ⟨#[105]⟩, ⟨#[]⟩, 0, 8),
  (128, ⟨#[79, 112, 73, 65, 100, 100]⟩, true, true, ⟨#[105, 105]⟩, ⟨#[]⟩, 0, 8),
  (130, ⟨#[79, 112, 73, 83, 117, 98]⟩, true, true, ⟨#[105, 105]⟩, ⟨#[]⟩, 0, 8),
  (132, ⟨#[79, 112, 73, 77, 117, 108]⟩, true, true, ⟨#[105, 105]⟩, ⟨#[]⟩, 0, 8),
  (134, ⟨#[79, 112, 85, 68, 105, 118]⟩, true, true, ⟨#[105, 105]⟩, ⟨#[]⟩, 0, 8),
  (135, ⟨#[79, 112, 83, 68, 105, 118]⟩, true, true, ⟨#[105, 105]⟩, ⟨#[]⟩, 0, 8),
  (137, ⟨#[79, 112, 85, 77, 111, 100]⟩, true, true, ⟨#[105, 105]⟩, ⟨#[]⟩, 0, 8),
  (138, ⟨#[79, 112, 83, 82, 101, 109]⟩, true, true, ⟨#[105, 105]⟩, ⟨#[]⟩, 0, 8),
  (139, ⟨#[79, 112, 83, 77, 111, 100]⟩, true, true, ⟨#[105, 105]⟩, ⟨#[]⟩, 0, 8),
  (149, ⟨#[79, 112, 73, 65, 100, 100, 67, 97, 114, 114, 121]⟩, true, true, ⟨#[105, 105]⟩, ⟨#[]⟩, 0, 8),
  (150, ⟨#[79, 112, 73, 83, 117, 98, 66, 111, 114, 114, 111, 119]⟩, true, true, ⟨#[105, 105]⟩, ⟨#[]⟩, 0, 8),
  (151, ⟨#[79, 112, 85, 77, 117, 108, 69, 120, 116, 101, 110, 100, 101, 100]⟩, true, true, ⟨#[105, 105]⟩, ⟨#[]⟩, 0, 8),
  (152, ⟨#[79, 112, 83, 77, 117, 108, 69, 120, 116, 101, 110, 100, 101, 100]⟩, true, true, ⟨#[105, 105]⟩, ⟨#[]⟩, 0, 8),
  (154, ⟨#[79, 112, 65, 110, 121]⟩, true, true, ⟨#[105]⟩, ⟨#[]⟩, 0, 8),
  (155, ⟨#[79, 112, 65, 108, 108]⟩, true, true, ⟨#[105]⟩, ⟨#[]⟩, 0, 8),
  (164, ⟨#[79, 112, 76, 111, 103, 105, 99, 97, 108, 69, 113, 117, 97, 108]⟩, true, true, ⟨#[105, 105]⟩, ⟨#[]⟩, 0, 8),
  (165, ⟨#[79, 112, 76, 111, 103, 105, 99, 97, 108, 78, 111, 116, 69, 113, 117, 97, 108]⟩, true, true, ⟨#[105, 105]⟩, ⟨#[]⟩, 0, 8),
  (166, ⟨#[79, 112, 76, 111, 103, 105, 99, 97, 108, 79, 114]⟩, true, true, ⟨#[105, 105]⟩, ⟨#[]⟩, 0, 8),
  (167, ⟨#[79, 112, 76, 111, 103, 105, 99, 97, 108, 65, 110, 100]⟩, true, true, ⟨#[105, 105]⟩, ⟨#[]⟩, 0, 8),
  (168, ⟨#[79, 112, 76, 111, 103, 105, 99, 97, 108, 78, 111, 116]⟩, true, true, ⟨#[105]⟩, ⟨#[]⟩, 0, 8),
  (169, ⟨#[79, 112, 83, 101, 108, 101, 99, 116]⟩, true, true, ⟨#[105, 105, 105]⟩, ⟨#[]⟩, 0, 8),
  (170, ⟨#[79, 112, 73, 69, 113, 117, 97, 108]⟩, true, true, ⟨#[105, 105]⟩, ⟨#[]⟩, 0, 8),
  (171, ⟨#[79, 112, 73, 78, 111, 116, 69, 113, 117, 97, 108]⟩, true, true, ⟨#[105, 105]⟩, ⟨#[]⟩, 0, 8),
  (172, ⟨#[79, 112, 85, 71, 114, 101, 97, 116, 101, 114, 84, 104, 97, 110]⟩, true, true, ⟨#[105, 105]⟩, ⟨#[]⟩, 0, 8),
  (173, ⟨#[79, 112, 83, 71, 114, 101, 97, 116, 101, 114, 84, 104, 97, 110]⟩, true, true, ⟨#[105, 105]⟩, ⟨#[]⟩, 0, 8),
  (174, ⟨#[79, 112, 85, 71, 114, 101, 97, 116, 101, 114, 84, 104, 97, 110, 69, 113, 117, 97, 108]⟩, true, true, ⟨#[105, 105]⟩, ⟨#[]⟩, 0, 8),
  (175, ⟨#[79, 112, 83, 71, 114, 101, 97, 116, 101, 114, 84, 104, 97, 110, 69, 113, 117, 97, 108]⟩, true, true, ⟨#[105, 105]⟩, ⟨#[]⟩, 0, 8),
  (176, ⟨#[79, 112, 85, 76, 101, 115, 115, 84, 104, 97, 110]⟩, true, true, ⟨#[105, 105]⟩, ⟨#[]⟩, 0, 8),
  (177, ⟨#[79, 112, 83, 76, 101, 115, 115, 84, 104, 97, 110]⟩, true, true, ⟨#[105, 105]⟩, ⟨#[]⟩, 0, 8),
  (178, ⟨#[79, 112, 85, 76, 101, 115, 115, 84, 104, 97, 110, 69, 113, 117, 97, 108]⟩, true, true, ⟨#[105, 105]⟩, ⟨#[]⟩, 0, 8),
  (179, ⟨#[79, 112, 83, 76, 101, 115, 115, 84, 104, 97, 110, 69, 113, 117, 97, 108]⟩, true, true, ⟨#[105, 105]⟩, ⟨#[]⟩, 0, 8),
  (194, ⟨#[79, 112, 83, 104, 105, 102, 116, 82, 105, 103, 104, 116, 76, 111, 103, 105, 99, 97, 108]⟩, true, true, ⟨#[105, 105]⟩, ⟨#[]⟩, 0, 8),
  (195, ⟨#[79, 112, 83, 104, 105, 102, 116, 82, 105, 103, 104, 116, 65, 114, 105, 116, 104, 109, 101, 116, 105, 99]⟩, true, true, ⟨#[105, 105]⟩, ⟨#[]⟩, 0, 8),
  (196, ⟨#[79, 112, 83, 104, 105, 102, 116, 76, 101, 102, 116, 76, 111, 103, 105, 99, 97, 108]⟩, true, true, ⟨#[105, 105]⟩, ⟨#[]⟩, 0, 8),
  (197, ⟨#[79, 112, 66, 105, 116, 119, 105, 115, 101, 79, 114]⟩, true, true, ⟨#[105, 105]⟩, ⟨#[]⟩, 0, 8),
  (198, ⟨#[79, 112, 66, 105, 116, 119, 105, 115, 101, 88, 111, 114]⟩, true, true, ⟨#[105, 105]⟩, ⟨#[]⟩, 0, 8),
  (199, ⟨#[79, 112, 66, 105, 116, 119, 105, 115, 101, 65, 110, 100]⟩, true, true, ⟨#[105, 105]⟩, ⟨#[]⟩, 0, 8),
  (200, ⟨#[79, 112, 78, 111, 116]⟩, true, true, ⟨#[105]⟩, ⟨#[]⟩, 0, 8),
  (201, ⟨#[79, 112, 66, 105, 116, 70, 105, 101, 108, 100, 73, 110, 115, 101, 114, 116]⟩, true, true, ⟨#[105, 105, 105, 105]⟩, ⟨#[]⟩, 0, 8),
  (202, ⟨#[79, 112, 66, 105, 116, 70, 105, 101, 108, 100, 83, 69, 120, 116, 114, 97, 99, 116]⟩, true, true, ⟨#[105, 105, 105]⟩, ⟨#[]⟩, 0, 8),
  (203, ⟨#[79, 112, 66, 105, 116, 70, 105, 101, 108, 100, 85, 69, 120, 116, 114, 97, 99, 116]⟩, true, true, ⟨#[105, 105, 105]⟩, ⟨#[]⟩, 0, 8),
  (204, ⟨#[79, 112, 66, 105, 116, 82, 101, 118, 101, 114, 115, 101]⟩, true, true, ⟨#[105]⟩, ⟨#[]⟩, 0, 8),
  (205, ⟨#[79, 112, 66, 105, 116, 67, 111, 117, 110, 116]⟩, true, true, ⟨#[105]⟩, ⟨#[]⟩, 0, 8),
  (245, ⟨#[79, 112, 80, 104, 105]⟩, true, true, ⟨#[]⟩, ⟨#[105, 105]⟩, 0, 8),
  (246, ⟨#[79, 112, 76, 111, 111, 112, 77, 101, 114, 103, 101]⟩, false, false, ⟨#[105, 105, 103]⟩, ⟨#[]⟩, 0, 8),
  (247, ⟨#[79, 112, 83, 101, 108, 101, 99, 116, 105, 111, 110, 77, 101, 114, 103, 101]⟩, false, false, ⟨#[105, 104]⟩, ⟨#[]⟩, 0, 8),
  (248, ⟨#[79, 112, 76, 97, 98, 101, 108]⟩, false, true, ⟨#[]⟩, ⟨#[]⟩, 0, 8),
  (249, ⟨#[79, 112, 66, 114, 97, 110, 99, 104]⟩, false, false, ⟨#[105]⟩, ⟨#[]⟩, 0, 8),
  (250, ⟨#[79, 112, 66, 114, 97, 110, 99, 104, 67, 111, 110, 100, 105, 116, 105, 111, 110, 97, 108]⟩, false, false, ⟨#[105, 105, 105]⟩, ⟨#[]⟩, 0, 8),
  (251, ⟨#[79, 112, 83, 119, 105, 116, 99, 104]⟩, false, false, ⟨#[105, 105]⟩, ⟨#[110, 105]⟩, 0, 8),
  (252, ⟨#[79, 112, 75, 105, 108, 108]⟩, false, false, ⟨#[]⟩, ⟨#[]⟩, 0, 8),
  (253, ⟨#[79, 112, 82, 101, 116, 117, 114, 110]⟩, false, false, ⟨#[]⟩, ⟨#[]⟩, 0, 8),
  (254, ⟨#[79, 112, 82, 101, 116, 117, 114, 110, 86, 97, 108, 117, 101]⟩, false, false, ⟨#[105]⟩, ⟨#[]⟩, 0, 8),
  (255, ⟨#[79, 112, 85, 110, 114, 101, 97, 99, 104, 97, 98, 108, 101]⟩, false, false, ⟨#[]⟩, ⟨#[]⟩, 0, 8)]

/-- The enumerants: letter, number, name. -/
def namesT : List (Int × Int × ByteArray) := [
  (107, 0, ⟨#[77, 97, 116, 114, 105, 120]⟩),
  (107, 1, ⟨#[83, 104, 97, 100, 101, 114]⟩),
  (97, 0, ⟨#[76, 111, 103, 105, 99, 97, 108]⟩),
  (109, 0, ⟨#[83, 105, 109, 112, 108, 101]⟩),
  (109, 1, ⟨#[71, 76, 83, 76, 52, 53, 48]⟩),
  (101, 0, ⟨#[86, 101, 114, 116, 101, 120]⟩),
  (101, 4, ⟨#[70, 114, 97, 103, 109, 101, 110, 116]⟩),
  (120, 7, ⟨#[79, 114, 105, 103, 105, 110, 85, 112, 112, 101, 114, 76, 101, 102, 116]⟩),
  (108, 0, ⟨#[85, 110, 107, 110, 111, 119, 110]⟩),
  (108, 1, ⟨#[69, 83, 83, 76]⟩),
  (108, 2, ⟨#[71, 76, 83, 76]⟩),
  (99, 1, ⟨#[73, 110, 112, 117, 116]⟩),
  (99, 3, ⟨#[79, 117, 116, 112, 117, 116]⟩),
  (99, 6, ⟨#[80, 114, 105, 118, 97, 116, 101]⟩),
  (99, 7, ⟨#[70, 117, 110, 99, 116, 105, 111, 110]⟩),
  (100, 0, ⟨#[82, 101, 108, 97, 120, 101, 100, 80, 114, 101, 99, 105, 115, 105, 111, 110]⟩),
  (100, 11, ⟨#[66, 117, 105, 108, 116, 73, 110]⟩),
  (100, 14, ⟨#[70, 108, 97, 116]⟩),
  (100, 30, ⟨#[76, 111, 99, 97, 116, 105, 111, 110]⟩),
  (102, 0, ⟨#[78, 111, 110, 101]⟩),
  (102, 1, ⟨#[73, 110, 108, 105, 110, 101]⟩),
  (102, 2, ⟨#[68, 111, 110, 116, 73, 110, 108, 105, 110, 101]⟩),
  (102, 4, ⟨#[80, 117, 114, 101]⟩),
  (102, 8, ⟨#[67, 111, 110, 115, 116]⟩),
  (104, 0, ⟨#[78, 111, 110, 101]⟩),
  (104, 1, ⟨#[70, 108, 97, 116, 116, 101, 110]⟩),
  (104, 2, ⟨#[68, 111, 110, 116, 70, 108, 97, 116, 116, 101, 110]⟩),
  (103, 0, ⟨#[78, 111, 110, 101]⟩),
  (103, 1, ⟨#[85, 110, 114, 111, 108, 108]⟩),
  (103, 2, ⟨#[68, 111, 110, 116, 85, 110, 114, 111, 108, 108]⟩)]

end Go.Proofs.YtgjedfmipllocaaGreatDoor

/-
  How the text of a form is read, sign by sign: plain mathematics, and that each text of the table reads as the form of the document's table.
-/
namespace Go.Proofs.YtgjedfmipllocaaGreatDoor
open Go.RowKit

/-- The sign at a place. -/
def sgn (s : ByteArray) (k : Nat) : Int := ((s.data.toList.getD k 0).toNat : Int)

theorem sgn_at (s : ByteArray) (k : Nat) (h : k < s.size) : ((s[k]'h).toNat : Int) = sgn s k := by
  have h' : k < s.data.toList.length := by simpa using h
  unfold sgn
  rw [List.getD_eq_getElem?_getD, List.getElem?_eq_getElem h']
  rfl

/-- What has been read: which column, where it began, and the form so far. -/
abbrev RdSt := Int × Int × Frm

def rdStep (s : ByteArray) (k : Nat) (c : Int) (x : RdSt) : RdSt :=
  match x with
  | (col, fr, nm, t, r, fx, rs, mo, pa) =>
    if c = 47 then (col + 1, k + 1, nm, t, r, fx, rs, mo, pa)
    else if col = 0 then (col, fr, s.extract fr.toNat (k + 1), t, r, fx, rs, mo, pa)
    else if col = 1 then (col, fr, nm, t || (c == 116), r || (c == 114), fx, rs, mo, pa)
    else if col = 2 then (col, fr, nm, t, r, s.extract fr.toNat (k + 1), rs, mo, pa)
    else if col = 3 then (col, fr, nm, t, r, fx, s.extract fr.toNat (k + 1), mo, pa)
    else if col = 4 then (col, fr, nm, t, r, fx, rs, 10 * mo + (c - 48), pa)
    else (col, fr, nm, t, r, fx, rs, mo, c - 48)

def rdTo (s : ByteArray) : Nat → RdSt
  | 0 => (0, 0, ⟨#[]⟩, false, false, ⟨#[]⟩, ⟨#[]⟩, 0, 0)
  | k + 1 => rdStep s k (sgn s k) (rdTo s k)

/-- A state, and a sign, that the reading of a good text meets. -/
def rdOk (k : Nat) (c : Int) (x : RdSt) : Bool :=
  decide (c < 128 ∧ 0 ≤ c ∧ 0 ≤ x.1 ∧ x.1 ≤ 5 ∧ 0 ≤ x.2.1 ∧ x.2.1 ≤ k ∧ 0 ≤ x.2.2.2.2.2.2.2.1 ∧ x.2.2.2.2.2.2.2.1 ≤ 1000 ∧ (x.1 = 4 → c ≠ 47 → 48 ≤ c) ∧ (x.1 = 5 → c ≠ 47 → 48 ≤ c))
def goodT (s : ByteArray) : Bool := (List.range s.size).all fun k => rdOk k (sgn s k) (rdTo s k)
theorem goodT_at {s : ByteArray} (h : goodT s = true) {k : Nat} (hk : k < s.size) : rdOk k (sgn s k) (rdTo s k) = true := List.all_eq_true.1 h k (List.mem_range.2 hk)

/-- The form that a text tells. -/
def rdF (s : ByteArray) : Frm := (rdTo s s.size).2.2

/-- The text of an operation's form. -/
def ftxt (n : Int) : ByteArray := if n < 41 then lookT namingT n else if n < 124 then lookT makingT n else if n < 164 then lookT countingT n else if n < 194 then lookT comparingT n else if n < 245 then lookT bitT n else lookT flowT n

end Go.Proofs.YtgjedfmipllocaaGreatDoor

/-
  What form of the document's answer returns: a form of just these fields.
-/
namespace Go.Proofs.YtgjedfmipllocaaGreatDoor
open Go.RowKit
set_option maxRecDepth 10000

/-- A form as a value. -/
def formV (op : Int) (f : Frm) : Value := .agg #[.int .u16 op, .string f.1, .bool f.2.1, .bool f.2.2.1, .string f.2.2.2.1, .string f.2.2.2.2.1, .int .i64 f.2.2.2.2.2.1, .int .u8 f.2.2.2.2.2.2]
/-- No form. -/
def noFrm : Frm := (⟨#[]⟩, false, false, ⟨#[]⟩, ⟨#[]⟩, 0, 0)

end Go.Proofs.YtgjedfmipllocaaGreatDoor

/-
  What Of of the document's answer returns, for every operation: the form of its table, or none.
-/
namespace Go.Proofs.YtgjedfmipllocaaGreatDoor
open Go.RowKit
set_option maxRecDepth 10000
set_option linter.unusedVariables false
set_option linter.unusedSimpArgs false

theorem one_block {w : World} {B T : Nat} {cs : Array Value} (h : w.heap[B]? = some (.cells cs T (0, 0))) : (∀ i, w.cell? ⟨B, i, none⟩ = cs[i]?) ∧ (∀ i, w.frozen? ⟨B, i, none⟩ = false) := by
  refine ⟨fun i => ?_, fun i => ?_⟩
  · simp [World.cell?, h]
  · simp [World.frozen?, h]
theorem alloc_new (w : World) (cs : Array Value) (T : Nat) : (w.alloc (.cells cs T)).heap[w.heap.size]? = some (.cells cs T (0, 0)) := heap_alloc_new w _

theorem eight_set {w : World} {B T : Nat} {z0 z1 z2 z3 z4 z5 z6 z7 : Value} (h : w.heap[B]? = some (.cells #[z0, z1, z2, z3, z4, z5, z6, z7] T (0, 0))) (u0 u1 u2 u3 u4 u5 u6 u7 : Value) :
    ((((((((w.setCell ⟨B, 0, none⟩ u0).setCell ⟨B, 1, none⟩ u1).setCell ⟨B, 2, none⟩ u2).setCell ⟨B, 3, none⟩ u3).setCell ⟨B, 4, none⟩ u4).setCell ⟨B, 5, none⟩ u5).setCell ⟨B, 6, none⟩ u6).setCell ⟨B, 7, none⟩ u7).heap[B]? = some (.cells #[u0, u1, u2, u3, u4, u5, u6, u7] T (0, 0)) := by
  simp only [World.setCell, Array.getElem?_modify, h]; simp
theorem eight_below (w : World) (B : Nat) (u0 u1 u2 u3 u4 u5 u6 u7 : Value) :
    Below B w ((((((((w.setCell ⟨B, 0, none⟩ u0).setCell ⟨B, 1, none⟩ u1).setCell ⟨B, 2, none⟩ u2).setCell ⟨B, 3, none⟩ u3).setCell ⟨B, 4, none⟩ u4).setCell ⟨B, 5, none⟩ u5).setCell ⟨B, 6, none⟩ u6).setCell ⟨B, 7, none⟩ u7) :=
  ((((((((Below.refl B w).setCell (Nat.le_refl _) _).setCell (Nat.le_refl _) _).setCell (Nat.le_refl _) _).setCell (Nat.le_refl _) _).setCell (Nat.le_refl _) _).setCell (Nat.le_refl _) _).setCell (Nat.le_refl _) _).setCell (Nat.le_refl _) _

/-- A form as its cells. -/
def frmCells (n : Int) (f : Frm) : Array Value := #[.int .u16 n, .string f.1, .bool f.2.1, .bool f.2.2.1, .string f.2.2.2.1, .string f.2.2.2.2.1, .int .i64 f.2.2.2.2.2.1, .int .u8 f.2.2.2.2.2.2]

/-- A form in a block: its cells. -/
theorem frm_cells {w : World} {B T : Nat} {n : Int} {f : Frm} (h : w.heap[B]? = some (.cells (frmCells n f) T (0, 0))) :
    w.cell? ⟨B, 0, none⟩ = some (.int .u16 n) ∧ w.cell? ⟨B, 1, none⟩ = some (.string f.1) ∧ w.cell? ⟨B, 2, none⟩ = some (.bool f.2.1) ∧ w.cell? ⟨B, 3, none⟩ = some (.bool f.2.2.1) ∧ w.cell? ⟨B, 4, none⟩ = some (.string f.2.2.2.1) ∧ w.cell? ⟨B, 5, none⟩ = some (.string f.2.2.2.2.1) ∧ w.cell? ⟨B, 6, none⟩ = some (.int .i64 f.2.2.2.2.2.1) ∧ w.cell? ⟨B, 7, none⟩ = some (.int .u8 f.2.2.2.2.2.2) ∧ ∀ i, w.frozen? ⟨B, i, none⟩ = false := by
  obtain ⟨hc, hf⟩ := one_block h
  exact ⟨hc 0, hc 1, hc 2, hc 3, hc 4, hc 5, hc 6, hc 7, hf⟩

/-- The form of an operation, and whether there is one. -/
def lookF : List (Int × Frm) → Int → Frm × Bool
  | [], _ => (noFrm, false)
  | (k, s) :: l, n => if n = k then (s, true) else lookF l n
/-- What is answered of an operation: its number and form, or zeros. -/
def ofV (n : Int) : Value := if (lookF refT n).2 then formV n (lookF refT n).1 else formV 0 noFrm

end Go.Proofs.YtgjedfmipllocaaGreatDoor

/-
  What the switches over texts of the layer grammar answer: the text of the number, for every number.
-/
namespace Go.Proofs.YtgjedfmipllocaaGreatDoor
open Go.RowKit
set_option maxRecDepth 10000

theorem namingText_any (n : Int) (w : World) : Calls Tryz.prog 200 #[.int .u16 n] w fun e w' => e = .returned (.string (lookT namingT n)) ∧ w = w' :=
  calls_textSwitch Tryz.func200 rfl rfl (by decide) rfl (by kernel_rfl) (by decide +kernel) n w

theorem makingText_any (n : Int) (w : World) : Calls Tryz.prog 201 #[.int .u16 n] w fun e w' => e = .returned (.string (lookT makingT n)) ∧ w = w' :=
  calls_textSwitch Tryz.func201 rfl rfl (by decide) rfl (by kernel_rfl) (by decide +kernel) n w

theorem countingText_any (n : Int) (w : World) : Calls Tryz.prog 202 #[.int .u16 n] w fun e w' => e = .returned (.string (lookT countingT n)) ∧ w = w' :=
  calls_textSwitch Tryz.func202 rfl rfl (by decide) rfl (by kernel_rfl) (by decide +kernel) n w

theorem comparingText_any (n : Int) (w : World) : Calls Tryz.prog 203 #[.int .u16 n] w fun e w' => e = .returned (.string (lookT comparingT n)) ∧ w = w' :=
  calls_textSwitch Tryz.func203 rfl rfl (by decide) rfl (by kernel_rfl) (by decide +kernel) n w

theorem bitText_any (n : Int) (w : World) : Calls Tryz.prog 204 #[.int .u16 n] w fun e w' => e = .returned (.string (lookT bitT n)) ∧ w = w' :=
  calls_textSwitch Tryz.func204 rfl rfl (by decide) rfl (by kernel_rfl) (by decide +kernel) n w

theorem flowText_any (n : Int) (w : World) : Calls Tryz.prog 205 #[.int .u16 n] w fun e w' => e = .returned (.string (lookT flowT n)) ∧ w = w' :=
  calls_textSwitch Tryz.func205 rfl rfl (by decide) rfl (by kernel_rfl) (by decide +kernel) n w

theorem enumText_any (n : Int) (w : World) : Calls Tryz.prog 215 #[.int .u8 n] w fun e w' => e = .returned (.string (lookT enumT n)) ∧ w = w' :=
  calls_textSwitch Tryz.func215 rfl rfl (by decide) rfl (by kernel_rfl) (by decide +kernel) n w

end Go.Proofs.YtgjedfmipllocaaGreatDoor

/-
  What readForm of the layer grammar returns, for every text that is good: the form that it tells.
-/
namespace Go.Proofs.YtgjedfmipllocaaGreatDoor
open Go.RowKit Go.Lib
set_option maxRecDepth 10000
set_option linter.unusedVariables false
set_option linter.unusedSimpArgs false

theorem set_at {w : World} {B T : Nat} {cs : Array Value} (h : w.heap[B]? = some (.cells cs T (0, 0))) (i : Nat) (v : Value) : (w.setCell ⟨B, i, none⟩ v).heap[B]? = some (.cells (cs.setIfInBounds i v) T (0, 0)) := by
  simp only [World.setCell, Array.getElem?_modify, h]; simp

theorem set_off (w : World) (B i : Nat) (v : Value) {k : Nat} (h : k ≠ B) : (w.setCell ⟨B, i, none⟩ v).heap[k]? = w.heap[k]? := Below.heap_setCell w ⟨B, i, none⟩ v k (by simpa using h)

theorem allocs2 (w : World) (a b : Obj) : ((w.alloc a).alloc b).heap[w.heap.size]? = some a ∧ ((w.alloc a).alloc b).heap[w.heap.size + 1]? = some b :=
  ⟨(Below.heap_alloc _ _ _ (by simp)).trans (heap_alloc_new w _), by have := heap_alloc_new (w.alloc a) b; rw [World.size_alloc] at this; exact this⟩
theorem allocs3 (w : World) (a b c : Obj) : (((w.alloc a).alloc b).alloc c).heap[w.heap.size]? = some a ∧ (((w.alloc a).alloc b).alloc c).heap[w.heap.size + 1]? = some b ∧ (((w.alloc a).alloc b).alloc c).heap[w.heap.size + 2]? = some c :=
  ⟨(Below.heap_alloc _ _ _ (by simp; omega)).trans (allocs2 w a b).1, (Below.heap_alloc _ _ _ (by simp)).trans (allocs2 w a b).2, by have := heap_alloc_new ((w.alloc a).alloc b) c; rw [World.size_alloc, World.size_alloc] at this; exact this⟩

/-- What holds between two signs. -/
def RdI (w : World) (s : ByteArray) (n : Int) (k : Nat) (W : World) : Prop :=
  Below w.heap.size w W ∧ W.heap[w.heap.size]? = some (.cells (frmCells 0 noFrm) 255 (0, 0)) ∧ W.heap[w.heap.size + 1]? = some (.cells (frmCells n (rdTo s k).2.2) 255 (0, 0)) ∧ W.heap[w.heap.size + 2]? = some (.stringIter s k)

/-- How many signs are left. -/
def left (b m : Nat) (W : World) : Nat := match W.heap[b]? with | some (.stringIter _ k) => m - k | _ => 0
theorem left_at {b m : Nat} {W : World} {s : ByteArray} {k : Nat} (h : W.heap[b]? = some (.stringIter s k)) : left b m W = m - k := by unfold left; rw [h]

set_option maxRecDepth 10000 in
set_option maxHeartbeats 4000000 in
theorem readForm_any (n : Int) (s : ByteArray) (w : World) (hg : goodT s = true) (hs : s.size ≤ 1000) :
    Calls Tryz.prog 148 #[.int .u16 n, .string s] w fun e w' => e = .returned (formV n (rdF s)) ∧ Below w.heap.size w w' := by
  have HG : Hid (goodT s = true) := hg
  clear hg
  go_enter Tryz.func148, Tryz.ntmps148
  go_wp2
  go_loopw [6, 7] (fun c f W => ∃ k : Nat, k ≤ s.size ∧ c = .int .i64 (rdTo s k).1 ∧ f = .int .i64 (rdTo s k).2.1 ∧ RdI w s n k W) (fun _ _ W => left (w.heap.size + 2) s.size W)
  case atStart =>
    refine ⟨0, Nat.zero_le _, rfl, rfl, (((Below.refl _ w).alloc (Nat.le_refl _) _).alloc (by simp) _).alloc (by simp; omega) _, ?_, ?_, ?_⟩
    · exact (allocs3 w _ _ _).1
    · exact (allocs3 w _ _ _).2.1
    · exact (allocs3 w _ _ _).2.2
  case round =>
    obtain ⟨k, hk, rfl, rfl, hb, h4, h5, hit⟩ := hrel
    have hl0 : left (w.heap.size + 2) s.size wr = s.size - k := left_at hit
    by_cases hlt : k < s.size
    · have hok := goodT_at HG.out hlt
      have HS : Hid (rdTo s (k + 1) = rdStep s k (sgn s k) (rdTo s k)) := rfl
      have hsg := sgn_at s k hlt
      generalize sgn s k = c at *
      generalize hrd : rdTo s k = x at *
      obtain ⟨col, fr, nm, t, r, fx, rs, mo, pa⟩ := x
      simp only [rdOk, decide_eq_true_eq] at hok
      obtain ⟨o1, o2, o3, o4, o5, o6, o7, o8, o9, o10⟩ := hok
      have hnx := fun ty => run_next_ascii_at (P := Tryz.prog) _ _ s k ty hit hlt (by omega)
      rw [hsg] at hnx
      obtain ⟨W1, hW1⟩ : ∃ X, X = wr.iterAt (w.heap.size + 2) s (k + 1) := ⟨_, rfl⟩
      rw [← hW1] at hnx
      have hb1 : Below w.heap.size w W1 := by rw [hW1]; exact below_iterAt hb (by omega) _ _
      have i1 : W1.heap[w.heap.size + 2]? = some (.stringIter s (k + 1)) := by rw [hW1]; exact iterAt_heap _ _ _ _ _ hit
      have g4 : W1.heap[w.heap.size]? = some (.cells (frmCells 0 noFrm) 255 (0, 0)) := by rw [hW1, iterAt_other _ _ _ _ _ (by omega)]; exact h4
      have g5 : W1.heap[w.heap.size + 1]? = some (.cells (frmCells n (nm, t, r, fx, rs, mo, pa)) 255 (0, 0)) := by rw [hW1, iterAt_other _ _ _ _ _ (by omega)]; exact h5
      clear hW1 h4 h5 hit hb hsg hrd
      obtain ⟨hc, hf⟩ := one_block g5
      have HB : Hid (Below w.heap.size w W1) := hb1
      have H4 : Hid (W1.heap[w.heap.size]? = some (.cells (frmCells 0 noFrm) 255 (0, 0))) := g4
      have H5 : Hid (W1.heap[w.heap.size + 1]? = some (.cells (frmCells n (nm, t, r, fx, rs, mo, pa)) 255 (0, 0))) := g5
      have HI : Hid (W1.heap[w.heap.size + 2]? = some (.stringIter s (k + 1))) := i1
      have HL : Hid (left (w.heap.size + 2) s.size wr = s.size - k) := hl0
      clear g4 g5 i1 hb1 hl0
      by_cases h47 : c = 47
      · subst h47
        have e1 : rdTo s (k + 1) = (col + 1, (k : Int) + 1, nm, t, r, fx, rs, mo, pa) := by rw [HS.out]; simp [rdStep]
        have HE : Hid (rdTo s (k + 1) = (col + 1, (k : Int) + 1, nm, t, r, fx, rs, mo, pa)) := e1
        clear e1 HS hc hf o9 o10
        go_wp2
        go_roundw
        case rel => exact ⟨k + 1, by omega, by rw [HE.out], by rw [HE.out], HB.out, H4.out, by rw [HE.out]; exact H5.out, HI.out⟩
        case measure => rw [HL.out, left_at HI.out]; omega
      · have hne : (c == 47) = false := by simpa using h47
        have c1 := hc 1
        have c2 := hc 2
        have c3 := hc 3
        have c4 := hc 4
        have c5 := hc 5
        have c6 := hc 6
        have c7 := hc 7
        have f1 := hf 1
        have f2 := hf 2
        have f3 := hf 3
        have f4 := hf 4
        have f5 := hf 5
        have f6 := hf 6
        have f7 := hf 7
        clear hc hf
        unfold frmCells at c1 c2 c3 c4 c5 c6 c7
        rcases (show col = 0 ∨ col = 1 ∨ col = 2 ∨ col = 3 ∨ col = 4 ∨ col = 5 by omega) with rfl | rfl | rfl | rfl | rfl | rfl
        · have HE : Hid (rdTo s (k + 1) = (0, fr, s.extract fr.toNat (k + 1), t, r, fx, rs, mo, pa)) := by show _ = _; rw [HS.out]; simp [rdStep, h47]
          clear HS o9 o10
          go_wp2
          go_roundw
          case rel => exact ⟨k + 1, by omega, by rw [HE.out], by rw [HE.out], HB.out.setCell (by simp) _, (set_off _ _ _ _ (by omega)).trans H4.out, by rw [HE.out]; exact set_at H5.out 1 _, (set_off _ _ _ _ (by omega)).trans HI.out⟩
          case measure => rw [HL.out, left_at ((set_off _ _ _ _ (by omega)).trans HI.out)]; omega
        · have HE : Hid (rdTo s (k + 1) = (1, fr, nm, t || (c == 116), r || (c == 114), fx, rs, mo, pa)) := by show _ = _; rw [HS.out]; simp [rdStep, h47]
          clear HS o9 o10
          cases t <;> cases r
          all_goals
            go_wp2
            go_roundw
            case rel => exact ⟨k + 1, by omega, by rw [HE.out], by rw [HE.out], (HB.out.setCell (by simp) _).setCell (by simp) _, (set_off _ _ _ _ (by omega)).trans ((set_off _ _ _ _ (by omega)).trans H4.out), by rw [HE.out]; exact set_at (set_at H5.out 2 _) 3 _, (set_off _ _ _ _ (by omega)).trans ((set_off _ _ _ _ (by omega)).trans HI.out)⟩
            case measure => rw [HL.out, left_at ((set_off _ _ _ _ (by omega)).trans ((set_off _ _ _ _ (by omega)).trans HI.out))]; omega
        · have HE : Hid (rdTo s (k + 1) = (2, fr, nm, t, r, s.extract fr.toNat (k + 1), rs, mo, pa)) := by show _ = _; rw [HS.out]; simp [rdStep, h47]
          clear HS o9 o10
          go_wp2
          go_roundw
          case rel => exact ⟨k + 1, by omega, by rw [HE.out], by rw [HE.out], HB.out.setCell (by simp) _, (set_off _ _ _ _ (by omega)).trans H4.out, by rw [HE.out]; exact set_at H5.out 4 _, (set_off _ _ _ _ (by omega)).trans HI.out⟩
          case measure => rw [HL.out, left_at ((set_off _ _ _ _ (by omega)).trans HI.out)]; omega
        · have HE : Hid (rdTo s (k + 1) = (3, fr, nm, t, r, fx, s.extract fr.toNat (k + 1), mo, pa)) := by show _ = _; rw [HS.out]; simp [rdStep, h47]
          clear HS o9 o10
          go_wp2
          go_roundw
          case rel => exact ⟨k + 1, by omega, by rw [HE.out], by rw [HE.out], HB.out.setCell (by simp) _, (set_off _ _ _ _ (by omega)).trans H4.out, by rw [HE.out]; exact set_at H5.out 5 _, (set_off _ _ _ _ (by omega)).trans HI.out⟩
          case measure => rw [HL.out, left_at ((set_off _ _ _ _ (by omega)).trans HI.out)]; omega
        · have HE : Hid (rdTo s (k + 1) = (4, fr, nm, t, r, fx, rs, 10 * mo + (c - 48), pa)) := by show _ = _; rw [HS.out]; simp [rdStep, h47]
          clear HS 
          have o11 := o9 rfl h47
          clear o9 o10
          go_wp2
          go_roundw
          case rel => exact ⟨k + 1, by omega, by rw [HE.out], by rw [HE.out], HB.out.setCell (by simp) _, (set_off _ _ _ _ (by omega)).trans H4.out, by rw [HE.out]; exact set_at H5.out 6 _, (set_off _ _ _ _ (by omega)).trans HI.out⟩
          case measure => rw [HL.out, left_at ((set_off _ _ _ _ (by omega)).trans HI.out)]; omega
        · have HE : Hid (rdTo s (k + 1) = (5, fr, nm, t, r, fx, rs, mo, c - 48)) := by show _ = _; rw [HS.out]; simp [rdStep, h47]
          clear HS 
          have o11 := o10 rfl h47
          clear o9 o10
          go_wp2
          go_roundw
          case rel => exact ⟨k + 1, by omega, by rw [HE.out], by rw [HE.out], HB.out.setCell (by simp) _, (set_off _ _ _ _ (by omega)).trans H4.out, by rw [HE.out]; exact set_at H5.out 7 _, (set_off _ _ _ _ (by omega)).trans HI.out⟩
          case measure => rw [HL.out, left_at ((set_off _ _ _ _ (by omega)).trans HI.out)]; omega
    · have hnx := fun ty => run_next_end_at (P := Tryz.prog) _ _ s k ty hit hlt
      obtain rfl : k = s.size := by omega
      have HF : Hid (rdF s = (rdTo s s.size).2.2) := rfl
      generalize rdTo s s.size = x at *
      obtain ⟨col, fr, nm, t, r, fx, rs, mo, pa⟩ := x
      obtain ⟨hc, hf⟩ := one_block h5
      obtain ⟨gc, gf⟩ := one_block h4
      have c0 := hc 0
      have c1 := hc 1
      have c2 := hc 2
      have c3 := hc 3
      have c4 := hc 4
      have c5 := hc 5
      have c6 := hc 6
      have c7 := hc 7
      have d0 := gc 0
      have d1 := gc 1
      have d2 := gc 2
      have d3 := gc 3
      have d4 := gc 4
      have d5 := gc 5
      have d6 := gc 6
      have d7 := gc 7
      unfold frmCells at c0 c1 c2 c3 c4 c5 c6 c7
      unfold frmCells noFrm at d0 d1 d2 d3 d4 d5 d6 d7
      have HB : Hid (Below w.heap.size w wr) := hb
      have H4 : Hid (wr.heap[w.heap.size]? = some (.cells (frmCells 0 noFrm) 255 (0, 0))) := h4
      clear hc gc h4 h5 hit hl0 hb
      go_wp2
      have hx := eight_set H4.out (.int .u16 n) (.string nm) (.bool t) (.bool r) (.string fx) (.string rs) (.int .i64 mo) (.int .u8 pa)
      have hy := eight_below wr w.heap.size (.int .u16 n) (.string nm) (.bool t) (.bool r) (.string fx) (.string rs) (.int .i64 mo) (.int .u8 pa)
      obtain ⟨xc, xf⟩ := one_block hx
      have x0 := xc 0
      have x1 := xc 1
      have x2 := xc 2
      have x3 := xc 3
      have x4 := xc 4
      have x5 := xc 5
      have x6 := xc 6
      have x7 := xc 7
      clear hx xc d0 d1 d2 d3 d4 d5 d6 d7 c0 c1 c2 c3 c4 c5 c6 c7 gf hf xf
      generalize hZ : ((((((((wr.setCell ⟨w.heap.size, 0, none⟩ (.int .u16 n)).setCell ⟨w.heap.size, 1, none⟩ (.string nm)).setCell ⟨w.heap.size, 2, none⟩ (.bool t)).setCell ⟨w.heap.size, 3, none⟩ (.bool r)).setCell ⟨w.heap.size, 4, none⟩ (.string fx)).setCell ⟨w.heap.size, 5, none⟩ (.string rs)).setCell ⟨w.heap.size, 6, none⟩ (.int .i64 mo)).setCell ⟨w.heap.size, 7, none⟩ (.int .u8 pa)) = Z at *
      exact bodyPost_ret (v := formV n (nm, t, r, fx, rs, mo, pa)) (by simp [results, Tryz.results148, go_sem, formV, x0, x1, x2, x3, x4, x5, x6, x7]) rfl ⟨by rw [HF.out], HB.out.trans hy⟩

end Go.Proofs.YtgjedfmipllocaaGreatDoor

/-
  What formText and Of of the layer grammar return, for every operation; and that each text reads as the form of the document's table.
-/
namespace Go.Proofs.YtgjedfmipllocaaGreatDoor
open Go.RowKit
set_option maxRecDepth 10000
set_option linter.unusedVariables false
set_option linter.unusedSimpArgs false

theorem formText_any (n : Int) (w : World) : Calls Tryz.prog 147 #[.int .u16 n] w fun e w' => e = .returned (.string (ftxt n)) ∧ w = w' := by
  by_cases h1 : n < 41
  · have e : ftxt n = lookT namingT n := by unfold ftxt; rw [if_pos h1]
    go_enter Tryz.func147, Tryz.ntmps147
    go_wp2_with (go_at_call 200; refine (namingText_any _ _).mono ?_; rintro e w' ⟨rfl, rfl⟩)
    go_ret
    exact ⟨by rw [e]; rfl, rfl⟩
  · by_cases h2 : n < 124
    · have e : ftxt n = lookT makingT n := by unfold ftxt; rw [if_neg h1, if_pos h2]
      go_enter Tryz.func147, Tryz.ntmps147
      go_wp2_with (go_at_call 201; refine (makingText_any _ _).mono ?_; rintro e w' ⟨rfl, rfl⟩)
      go_ret
      exact ⟨by rw [e]; rfl, rfl⟩
    · by_cases h3 : n < 164
      · have e : ftxt n = lookT countingT n := by unfold ftxt; rw [if_neg h1, if_neg h2, if_pos h3]
        go_enter Tryz.func147, Tryz.ntmps147
        go_wp2_with (go_at_call 202; refine (countingText_any _ _).mono ?_; rintro e w' ⟨rfl, rfl⟩)
        go_ret
        exact ⟨by rw [e]; rfl, rfl⟩
      · by_cases h4 : n < 194
        · have e : ftxt n = lookT comparingT n := by unfold ftxt; rw [if_neg h1, if_neg h2, if_neg h3, if_pos h4]
          go_enter Tryz.func147, Tryz.ntmps147
          go_wp2_with (go_at_call 203; refine (comparingText_any _ _).mono ?_; rintro e w' ⟨rfl, rfl⟩)
          go_ret
          exact ⟨by rw [e]; rfl, rfl⟩
        · by_cases h5 : n < 245
          · have e : ftxt n = lookT bitT n := by unfold ftxt; rw [if_neg h1, if_neg h2, if_neg h3, if_neg h4, if_pos h5]
            go_enter Tryz.func147, Tryz.ntmps147
            go_wp2_with (go_at_call 204; refine (bitText_any _ _).mono ?_; rintro e w' ⟨rfl, rfl⟩)
            go_ret
            exact ⟨by rw [e]; rfl, rfl⟩
          · have e : ftxt n = lookT flowT n := by unfold ftxt; rw [if_neg h1, if_neg h2, if_neg h3, if_neg h4, if_neg h5]
            go_enter Tryz.func147, Tryz.ntmps147
            go_wp2_with (go_at_call 205; refine (flowText_any _ _).mono ?_; rintro e w' ⟨rfl, rfl⟩)
            go_ret
            exact ⟨by rw [e]; rfl, rfl⟩

/-! ### the two tables are one -/

theorem lookF_true : ∀ {l : List (Int × Frm)} {n : Int}, (lookF l n).2 = true → (n, (lookF l n).1) ∈ l
  | [], n, h => by cases h
  | (k, s) :: l, n, h => by
    rw [lookF] at h ⊢
    split at h
    · rename_i e; subst e; rw [if_pos rfl]; exact List.mem_cons_self
    · rename_i e; rw [if_neg e]; exact List.mem_cons_of_mem _ (lookF_true h)
theorem lookF_false : ∀ {l : List (Int × Frm)} {n : Int}, (lookF l n).2 = false → lookF l n = (noFrm, false) ∧ ∀ k s, (k, s) ∈ l → n ≠ k
  | [], n, h => ⟨rfl, fun _ _ hm => by cases hm⟩
  | (k, s) :: l, n, h => by
    rw [lookF] at h ⊢
    split at h
    · cases h
    · rename_i e
      rw [if_neg e]
      refine ⟨(lookF_false h).1, fun k' s' hm => ?_⟩
      rcases List.mem_cons.1 hm with e' | hm
      · cases e'; exact e
      · exact (lookF_false h).2 k' s' hm

def rowOk (p : Int × Frm) : Bool := goodT (ftxt p.1) && decide ((ftxt p.1).size ≤ 1000) && decide ((ftxt p.1).size ≠ 0) && decide (rdF (ftxt p.1) = p.2)
theorem rows_ok : refT.all rowOk = true := by decide +kernel
def keyIn (t : List (Int × ByteArray)) : Bool := t.all fun p => refT.any fun q => decide (q.1 = p.1)
theorem keys_in : (keyIn namingT && keyIn makingT && keyIn countingT && keyIn comparingT && keyIn bitT && keyIn flowT) = true := by decide +kernel
theorem key_none {t : List (Int × ByteArray)} (h : keyIn t = true) {n : Int} (hn : ∀ k s, (k, s) ∈ refT → n ≠ k) : lookT t n = ⟨#[]⟩ := lookT_none fun k s hm e => by
  have := List.all_eq_true.1 h (k, s) hm
  obtain ⟨q, hq, e2⟩ := List.any_eq_true.1 this
  exact hn q.1 q.2 hq (by rw [e]; exact (of_decide_eq_true e2).symm)

/-- Every operation's text: it reads as the form of the document's table; it is empty just if there is none. -/
theorem ftxt_ok (n : Int) : goodT (ftxt n) = true ∧ (ftxt n).size ≤ 1000 ∧ rdF (ftxt n) = (lookF refT n).1 ∧ ((lookF refT n).2 = true → (ftxt n).size ≠ 0) ∧ ((lookF refT n).2 = false → ftxt n = ⟨#[]⟩) := by
  cases h : (lookF refT n).2
  · obtain ⟨h1, h2⟩ := lookF_false h
    have hk := keys_in
    simp only [Bool.and_eq_true] at hk
    obtain ⟨⟨⟨⟨⟨k1, k2⟩, k3⟩, k4⟩, k5⟩, k6⟩ := hk
    have e : ftxt n = ⟨#[]⟩ := by
      unfold ftxt
      rw [key_none k1 h2, key_none k2 h2, key_none k3 h2, key_none k4 h2, key_none k5 h2, key_none k6 h2]
      simp
    rw [e, h1]
    exact ⟨by decide +kernel, by decide, by decide +kernel, fun h => (by cases h), fun _ => rfl⟩
  · have hm := lookF_true h
    have hr := List.all_eq_true.1 rows_ok _ hm
    simp only [rowOk, Bool.and_eq_true, decide_eq_true_eq] at hr
    obtain ⟨⟨⟨r1, r2⟩, r3⟩, r4⟩ := hr
    exact ⟨r1, r2, r4, fun _ => r3, fun h => by cases h⟩

theorem readForm_op (n : Int) (w : World) : Calls Tryz.prog 148 #[.int .u16 n, .string (ftxt n)] w fun e w' => e = .returned (formV n (lookF refT n).1) ∧ Below w.heap.size w w' := by
  obtain ⟨h1, h2, h3, _, _⟩ := ftxt_ok n
  rw [← h3]
  exact readForm_any n (ftxt n) w h1 h2

theorem bytes_empty (s : ByteArray) (h : s.size ≠ 0) : (s.toList == ([] : List UInt8)) = false := by
  rw [ByteArray.toList_eq]
  cases e : s.data.toList with
  | nil => exfalso; apply h; show s.data.size = 0; rw [← Array.length_toList, e]; rfl
  | cons a l => rfl

set_option maxHeartbeats 1000000 in
theorem of_any (n : Int) (w : World) : Calls Tryz.prog 104 #[.int .u16 n] w fun e w' => e = .returned (.tuple #[ofV n, .bool (lookF refT n).2]) ∧ Below w.heap.size w w' := by
  obtain ⟨_, _, _, h4, h5⟩ := ftxt_ok n
  cases h : (lookF refT n).2
  · have e := h5 h
    have hT := fun w => formText_any n w
    rw [e] at hT
    have HO : Hid (ofV n = formV 0 noFrm) := by show _ = _; unfold ofV; rw [h]; rfl
    clear h4 h5 e h
    go_enter Tryz.func104, Tryz.ntmps104
    go_wp2_with (go_at_call 147; refine (hT _).mono ?_; rintro e w' ⟨rfl, rfl⟩)
    rw [HO.out]
    exact bodyPost_ret (v := .tuple #[formV 0 noFrm, .bool false]) (by simp [results, Tryz.results104, go_sem, formV, noFrm]) rfl ⟨rfl, (Below.refl _ _).alloc (Nat.le_refl _) _⟩
  · have e := bytes_empty _ (h4 h)
    have HO : Hid (ofV n = formV n (lookF refT n).1) := by show _ = _; unfold ofV; rw [h]; rfl
    have hT := fun w => formText_any n w
    have hR := fun w => readForm_op n w
    clear h4 h5 h
    generalize ftxt n = s at *
    generalize (lookF refT n).1 = f at *
    go_enter Tryz.func104, Tryz.ntmps104
    go_wp2_with (go_at_call 147; refine (hT _).mono ?_; rintro e w' ⟨rfl, rfl⟩)
    refine (hR _).mono ?_
    rintro e w1 ⟨rfl, hb⟩
    have hB := (hb.block w.heap.size (by simp)).trans (alloc_new w _ _)
    have hbw : Below w.heap.size w w1 := ((Below.refl _ w).alloc (Nat.le_refl _) _).trans (hb.mono (by simp))
    have HB : Hid (w1.heap[w.heap.size]? = some (.cells (frmCells 0 noFrm) 190 (0, 0))) := hB
    obtain ⟨d0, d1, d2, d3, d4, d5, d6, d7, df⟩ := frm_cells (n := 0) (f := noFrm) hB
    unfold noFrm at d1 d2 d3 d4 d5 d6 d7
    clear hB hb hT hR
    obtain ⟨nm, t, r, fx, rs, mo, pa⟩ := f
    unfold formV
    go_wp2
    have hx := eight_set HB.out (.int .u16 n) (.string nm) (.bool t) (.bool r) (.string fx) (.string rs) (.int .i64 mo) (.int .u8 pa)
    have hy := eight_below w1 w.heap.size (.int .u16 n) (.string nm) (.bool t) (.bool r) (.string fx) (.string rs) (.int .i64 mo) (.int .u8 pa)
    obtain ⟨x0, x1, x2, x3, x4, x5, x6, x7, xf⟩ := frm_cells (n := n) (f := (nm, t, r, fx, rs, mo, pa)) hx
    clear hx d0 d1 d2 d3 d4 d5 d6 d7 df xf
    generalize ((((((((w1.setCell ⟨w.heap.size, 0, none⟩ (.int .u16 n)).setCell ⟨w.heap.size, 1, none⟩ (.string nm)).setCell ⟨w.heap.size, 2, none⟩ (.bool t)).setCell ⟨w.heap.size, 3, none⟩ (.bool r)).setCell ⟨w.heap.size, 4, none⟩ (.string fx)).setCell ⟨w.heap.size, 5, none⟩ (.string rs)).setCell ⟨w.heap.size, 6, none⟩ (.int .i64 mo)).setCell ⟨w.heap.size, 7, none⟩ (.int .u8 pa)) = Z at *
    exact bodyPost_ret (v := .tuple #[formV n (nm, t, r, fx, rs, mo, pa), .bool true]) (by simp [results, Tryz.results104, go_sem, formV, x0, x1, x2, x3, x4, x5, x6, x7]) rfl ⟨by rw [HO.out], hbw.trans hy⟩

end Go.Proofs.YtgjedfmipllocaaGreatDoor
